/-
  The document's own reading of an image: what it comes to.
-/
import Derived.Test.YtmonbjlkkhpinaaDoorRMem
import Derived.Test.YtmonbjlkkhpinaaDoorCodeMath
import Derived.Test.YtmonbjlkkhpinaaDoorRefMore
import Derived.RegionTactic
namespace Go.Proofs.YtmonbjlkkhpinaaDoor
open Go.RowKit
set_option linter.unusedVariables false

theorem cell_new (W : World) (n : Nat) (h : W.heap.size = n) (cs : Array Value) (t : TypeId) (j : Nat) : (W.alloc (.cells cs t)).cell? ⟨n, j, none⟩ = cs[j]? := by subst h; simp
theorem inV_eq (st : St) : inV st = .agg #[.string (bs st.1), .int .i64 (st.2 : Nat)] := rfl
/-- Three blocks of the call's own, the first ones behind w. -/
structure Bx (w wr : World) (A1 A2 A3 : Array Value) : Prop where
  c1 : ∀ j, wr.cell? ⟨w.heap.size, j, none⟩ = A1[j]?
  c2 : ∀ j, wr.cell? ⟨w.heap.size + 1, j, none⟩ = A2[j]?
  c3 : ∀ j, wr.cell? ⟨w.heap.size + 1 + 1, j, none⟩ = A3[j]?
  f1 : ∀ j, wr.frozen? ⟨w.heap.size, j, none⟩ = false
  f2 : ∀ j, wr.frozen? ⟨w.heap.size + 1, j, none⟩ = false
  f3 : ∀ j, wr.frozen? ⟨w.heap.size + 1 + 1, j, none⟩ = false
  sz : w.heap.size + 1 + 1 < wr.heap.size
  bel : Below w.heap.size w wr
theorem Bx.new (w : World) (A1 A2 A3 : Array Value) (t1 t2 t3 : TypeId) : Bx w (((w.alloc (.cells A1 t1)).alloc (.cells A2 t2)).alloc (.cells A3 t3)) A1 A2 A3 := by
  have z1 : (w.alloc (.cells A1 t1)).heap.size = w.heap.size + 1 := by simp
  have z2 : ((w.alloc (.cells A1 t1)).alloc (.cells A2 t2)).heap.size = w.heap.size + 1 + 1 := by simp
  refine ⟨fun j => ?_, fun j => ?_, fun j => ?_, fun j => ?_, fun j => ?_, fun j => ?_, by simp, (((Below.refl _ _).alloc (Nat.le_refl _) _).alloc (by omega) _).alloc (by omega) _⟩
  · rw [World.cell?_alloc_lt _ _ _ (by show w.heap.size < _; omega), World.cell?_alloc_lt _ _ _ (by show w.heap.size < _; omega)]; simp
  · rw [World.cell?_alloc_lt _ _ _ (by show w.heap.size + 1 < _; omega), ← z1]; simp
  · generalize (w.alloc (.cells A1 t1)).alloc (.cells A2 t2) = wB at z2 ⊢
    rw [← z2]; simp
  · rw [frozen_old _ _ _ (by show w.heap.size < _; omega), frozen_old _ _ _ (by show w.heap.size < _; omega)]; exact frozen_new _ _ _ _
  · rw [frozen_old _ _ _ (by show w.heap.size + 1 < _; omega), ← z1]; exact frozen_new _ _ _ _
  · rw [← z2]; exact frozen_new _ _ _ _
theorem Bx.keep {w wr w' : World} {A1 A2 A3 : Array Value} (h : Bx w wr A1 A2 A3) (hb : Below wr.heap.size wr w') : Bx w w' A1 A2 A3 := by
  have hs := h.sz
  exact ⟨fun j => (hb.cell (p := ⟨w.heap.size, j, none⟩) (by show w.heap.size < _; omega)).trans (h.c1 j), fun j => (hb.cell (p := ⟨w.heap.size + 1, j, none⟩) (by show w.heap.size + 1 < _; omega)).trans (h.c2 j), fun j => (hb.cell (p := ⟨w.heap.size + 1 + 1, j, none⟩) hs).trans (h.c3 j),
    fun j => (hb.frozen (p := ⟨w.heap.size, j, none⟩) (by show w.heap.size < _; omega)).trans (h.f1 j), fun j => (hb.frozen (p := ⟨w.heap.size + 1, j, none⟩) (by show w.heap.size + 1 < _; omega)).trans (h.f2 j), fun j => (hb.frozen (p := ⟨w.heap.size + 1 + 1, j, none⟩) hs).trans (h.f3 j),
    by have := hb.size; omega, h.bel.trans (hb.mono h.bel.size)⟩
/-- A pair stored into the first block. -/
theorem Bx.set1 {w wr : World} {x0 x1 : Value} {A2 A3 : Array Value} (h : Bx w wr #[x0, x1] A2 A3) (y0 y1 : Value) : Bx w ((wr.setCell ⟨w.heap.size, 0, none⟩ y0).setCell ⟨w.heap.size, 1, none⟩ y1) #[y0, y1] A2 A3 := by
  have ht : Touch (fun k => k = w.heap.size) wr ((wr.setCell ⟨w.heap.size, 0, none⟩ y0).setCell ⟨w.heap.size, 1, none⟩ y1) := ((Touch.refl (fun k => k = w.heap.size) wr).setCell (p := ⟨w.heap.size, 0, none⟩) (fun _ => rfl) _).setCell (p := ⟨w.heap.size, 1, none⟩) (fun _ => rfl) _
  have hs := h.sz
  have n1 : ¬ w.heap.size + 1 = w.heap.size := by omega
  have n2 : ¬ w.heap.size + 1 + 1 = w.heap.size := by omega
  have c0 : wr.cell? ⟨w.heap.size, 0, none⟩ = some x0 := (h.c1 0).trans rfl
  have c1 : wr.cell? ⟨w.heap.size, 1, none⟩ = some x1 := (h.c1 1).trans rfl
  refine ⟨fun j => ?_, fun j => (ht.cell (p := ⟨w.heap.size + 1, j, none⟩) (by show w.heap.size + 1 < _; omega) n1).trans (h.c2 j), fun j => (ht.cell (p := ⟨w.heap.size + 1 + 1, j, none⟩) hs n2).trans (h.c3 j), fun j => by simpa using h.f1 j, fun j => by simpa using h.f2 j, fun j => by simpa using h.f3 j, by have := ht.size; omega, (h.bel.setCell (by simp) _).setCell (by simp) _⟩
  match j with
  | 0 => rw [World.cell?_setCell_other _ _ _ _ (by simp)]; exact World.cell?_setCell_same _ _ _ c0
  | 1 => exact World.cell?_setCell_same _ _ _ ((World.cell?_setCell_other _ _ _ _ (by simp)).trans c1)
  | j + 2 => rw [World.cell?_setCell_other _ _ _ _ (by simp), World.cell?_setCell_other _ _ _ _ (by simp)]; exact (h.c1 (j + 2)).trans (by simp)
/-- A store behind the three. -/
theorem Bx.far {w wr : World} {A1 A2 A3 : Array Value} (h : Bx w wr A1 A2 A3) {p : Addr} (hp : w.heap.size + 1 + 1 < p.block) (u : Value) : Bx w (wr.setCell p u) A1 A2 A3 := by
  have ht : Touch (fun k => k = p.block) wr (wr.setCell p u) := (Touch.refl (fun k => k = p.block) wr).setCell (p := p) (fun _ => rfl) _
  have hs := h.sz
  exact ⟨fun j => (ht.cell (p := ⟨w.heap.size, j, none⟩) (by show w.heap.size < _; omega) (by show ¬ w.heap.size = _; omega)).trans (h.c1 j), fun j => (ht.cell (p := ⟨w.heap.size + 1, j, none⟩) (by show w.heap.size + 1 < _; omega) (by show ¬ w.heap.size + 1 = _; omega)).trans (h.c2 j), fun j => (ht.cell (p := ⟨w.heap.size + 1 + 1, j, none⟩) hs (by show ¬ w.heap.size + 1 + 1 = _; omega)).trans (h.c3 j),
    fun j => by simpa using h.f1 j, fun j => by simpa using h.f2 j, fun j => by simpa using h.f3 j, by have := ht.size; omega, h.bel.setCell (by omega) _⟩
set_option maxHeartbeats 4000000 in
theorem refInstr_any (st : St) (w : World) (h : StOk st) :
    Calls Tryd.prog 61 #[.agg #[.string (bs st.1), .int .i64 (st.2 : Nat)]] w fun r w' => r = .returned (.tuple #[.agg #[.string (bs (insS st).1.1), .int .i64 ((insS st).1.2 : Nat)], .agg #[.int .i64 ((insS st).2.1 : Nat), .int .i64 (insS st).2.2]]) ∧ Below w.heap.size w w' := by
  have hC := fun W => refTakeCount_any st.1 st.2 22 W (by decide) (by decide) h.2 h.1
  have hS : insS st = if hasA (countS st 22).2 then ((numS (countS st 22).1).1, ((countS st 22).2, unzig (numS (countS st 22).1).2)) else (if (countS st 22).2 = 0 then failS (countS st 22).1 14 else (countS st 22).1, ((countS st 22).2, 0)) := rfl
  have hle : (countS st 22).2 ≤ 22 := countS_le st 22
  have hok : StOk (countS st 22).1 := countS_stOk h
  obtain ⟨l0, e0⟩ := st
  simp only at hC
  have HB0 := Lib.hid (Bx.new w #[.string (bs l0), .int .i64 (e0 : Nat)] #[.string ⟨#[]⟩, .int .i64 0] #[.int .i64 0, .int .i64 0] 89 89 65)
  generalize countS (l0, e0) 22 = t at hC hS hle hok
  obtain ⟨⟨l1, e1⟩, o⟩ := t
  simp only [inV_eq] at hC
  simp only at hle hok
  have HC := Lib.hid hC
  have HS := Lib.hid hS
  have HH := Lib.hid (refHasArg_any o)
  have HOK := Lib.hid hok
  simp only at HS
  clear hC hS h hok
  generalize insS (l0, e0) = res at HS
  by_cases h00 : o = 0 ∧ e1 = 0
  · obtain ⟨rfl, rfl⟩ := h00
    have HS1 := Lib.hid (HS.out.trans (by rfl : _ = (failS (l1, 0) 14, ((0 : Nat), (0 : Int)))))
    clear HS
    have hF := fun W => refFail_any l1 0 14 W
    generalize failS (l1, 0) 14 = fs at HS1 hF
    obtain ⟨lf, ef⟩ := fs
    simp only [inV_eq] at hF
    have HF := Lib.hid hF
    clear hF
    go_enter Tryd.func61, Tryd.ntmps61
    go_wp2_with fail
    refine (HC.out _).mono ?_
    rintro r w1 ⟨rfl, hb1⟩
    have HB1 := Lib.hid (HB0.out.keep hb1)
    have HB2 := Lib.hid (HB1.out.set1 (.string (bs l1)) (.int .i64 0))
    have a0 := (HB1.out.c1 0).trans rfl
    have a1 := (HB1.out.c1 1).trans rfl
    have g0 := HB1.out.f1 0
    have g1 := HB1.out.f1 1
    have hz := HB1.out.sz
    have hzw : w.heap.size < w1.heap.size := by omega
    clear hb1 HB0 HB1
    go_wp2_with fail
    clear a0 a1 g0 g1 hz hzw
    refine (HF.out _).mono ?_
    rintro r w3 ⟨rfl, hb3⟩
    have HB3 := Lib.hid (HB2.out.keep hb3)
    have b0 := (HB3.out.c2 0).trans rfl
    have b1 := (HB3.out.c2 1).trans rfl
    have d0 := (HB3.out.c3 0).trans rfl
    have d1 := (HB3.out.c3 1).trans rfl
    have p0 := HB3.out.f2 0
    have p1 := HB3.out.f2 1
    have q0 := HB3.out.f3 0
    have q1 := HB3.out.f3 1
    have hz := HB3.out.sz
    have hz1 : w.heap.size + 1 < w3.heap.size := by omega
    clear hb3 HB2
    go_wp2
    exact bodyPost_ret (v := .tuple #[.agg #[.string (bs lf), .int .i64 ef], .agg #[.int .i64 0, .int .i64 0]]) (by simp [results, Tryd.results61, go_sem, b0, b1, d0, d1]) rfl ⟨by rw [HS1.out]; rfl, (((HB3.out.bel.setCell (by simp) _).setCell (by simp) _).setCell (by simp; omega) _).setCell (by simp; omega) _⟩
  · have hcase : ((e1 : Int) == 0) = false ∨ (((e1 : Int) == 0) = true ∧ ((o : Int) == 0) = false) := by
      by_cases he : e1 = 0
      · exact .inr ⟨by simp; omega, by simp; omega⟩
      · exact .inl (by simp; omega)
    have HX0 : Hid ((if o = 0 then failS (l1, e1) 14 else (l1, e1)) = (l1, e1)) := Lib.hid (by
      split
      · unfold failS; rw [if_neg (fun h => h00 ⟨by assumption, h.1⟩)]
      · rfl)
    clear h00
    cases hA : hasA o
    · have HS2 := Lib.hid (show res = ((l1, e1), (o, (0 : Int))) by rw [HS.out, hA, HX0.out]; simp)
      rw [hA] at HH
      clear HS hA HX0
      rcases hcase with heb | ⟨heb, hob⟩
      all_goals
        go_enter Tryd.func61, Tryd.ntmps61
        go_wp2_with fail
        refine (HC.out _).mono ?_
        rintro r w1 ⟨rfl, hb1⟩
        have HB1 := Lib.hid (HB0.out.keep hb1)
        have HB2 := Lib.hid (HB1.out.set1 (.string (bs l1)) (.int .i64 (e1 : Nat)))
        have a0 := (HB1.out.c1 0).trans rfl
        have a1 := (HB1.out.c1 1).trans rfl
        have g0 := HB1.out.f1 0
        have g1 := HB1.out.f1 1
        have hz := HB1.out.sz
        have hzw : w.heap.size < w1.heap.size := by omega
        have hzw1 : w.heap.size + 1 < w1.heap.size := by omega
        clear hb1 HB0 HB1
        go_wp2_with (first | (go_at_call 23; refine (HH.out _).mono ?_; rintro e w' ⟨rfl, rfl⟩) | fail)
        have HZ2 : Hid (((w1.setCell ⟨w.heap.size, 0, none⟩ (.string (bs l1))).setCell ⟨w.heap.size, 1, none⟩ (.int .i64 (e1 : Nat))).heap.size = w1.heap.size) := Lib.hid (by simp)
        generalize (w1.setCell ⟨w.heap.size, 0, none⟩ (.string (bs l1))).setCell ⟨w.heap.size, 1, none⟩ (.int .i64 (e1 : Nat)) = W2 at HB2 HZ2
        have hzB : w.heap.size + 1 + 1 < w1.heap.size := hz
        have HB3 := Lib.hid (HB2.out.keep ((Below.refl _ W2).alloc (Nat.le_refl _) (.cells #[.int .i64 (o : Nat), .int .i64 0] 65)))
        have i0 : (W2.alloc (.cells #[.int .i64 (o : Nat), .int .i64 0] 65)).cell? ⟨w1.heap.size, 0, none⟩ = some (.int .i64 (o : Nat)) := by rw [← HZ2.out]; simp
        have i1 : (W2.alloc (.cells #[.int .i64 (o : Nat), .int .i64 0] 65)).cell? ⟨w1.heap.size, 1, none⟩ = some (.int .i64 0) := by rw [← HZ2.out]; simp
        clear a0 a1 g0 g1 hz hzw hzw1 HB2 HZ2
        generalize W2.alloc (.cells #[.int .i64 (o : Nat), .int .i64 0] 65) = W3 at HB3 i0 i1
        have a0 := (HB3.out.c1 0).trans rfl
        have a1 := (HB3.out.c1 1).trans rfl
        have b0 := (HB3.out.c2 0).trans rfl
        have b1 := (HB3.out.c2 1).trans rfl
        have d0 := (HB3.out.c3 0).trans rfl
        have d1 := (HB3.out.c3 1).trans rfl
        have p0 := HB3.out.f2 0
        have p1 := HB3.out.f2 1
        have q0 := HB3.out.f3 0
        have q1 := HB3.out.f3 1
        have hz1 := HB3.out.sz
        have hz2 : w.heap.size + 1 < W3.heap.size := by omega
        have hz3 : w.heap.size < W3.heap.size := by omega
        have hz4 := block_lt_of_cell i0
        have ne1 : w1.heap.size ≠ w.heap.size + 1 := by omega
        have ne2 : w1.heap.size ≠ w.heap.size + 1 + 1 := by omega
        go_region
        all_goals (go_wp2; exact bodyPost_ret (v := .tuple #[.agg #[.string (bs l1), .int .i64 e1], .agg #[.int .i64 o, .int .i64 0]]) (by simp [results, Tryd.results61, go_sem, b0, b1, d0, d1]) rfl ⟨by rw [HS2.out], by first | exact (((HB3.out.bel.setCell (by simp) _).setCell (by simp) _).setCell (by simp; omega) _).setCell (by simp; omega) _ | exact ((((HB3.out.bel.drew).setCell (by simp) _).setCell (by simp) _).setCell (by simp; omega) _).setCell (by simp; omega) _⟩)
    · have HS2 := Lib.hid (show res = ((numS (l1, e1)).1, (o, unzig (numS (l1, e1)).2)) by rw [HS.out, hA]; simp)
      rw [hA] at HH
      clear HS hA HX0
      have hI := fun W => refTakeInt_any l1 e1 W HOK.out.2 HOK.out.1
      generalize numS (l1, e1) = t2 at HS2 hI
      obtain ⟨⟨l2, e2⟩, n2⟩ := t2
      simp only [inV_eq] at hI
      simp only at HS2
      have HI := Lib.hid hI
      clear hI
      generalize unzig n2 = ag at HI HS2
      rcases hcase with heb | ⟨heb, hob⟩
      all_goals
        go_enter Tryd.func61, Tryd.ntmps61
        go_wp2_with fail
        refine (HC.out _).mono ?_
        rintro r w1 ⟨rfl, hb1⟩
        have HB1 := Lib.hid (HB0.out.keep hb1)
        have HB2 := Lib.hid (HB1.out.set1 (.string (bs l1)) (.int .i64 (e1 : Nat)))
        have a0 := (HB1.out.c1 0).trans rfl
        have a1 := (HB1.out.c1 1).trans rfl
        have g0 := HB1.out.f1 0
        have g1 := HB1.out.f1 1
        have hz := HB1.out.sz
        have hzw : w.heap.size < w1.heap.size := by omega
        have hzw1 : w.heap.size + 1 < w1.heap.size := by omega
        clear hb1 HB0 HB1
        go_wp2_with (first | (go_at_call 23; refine (HH.out _).mono ?_; rintro e w' ⟨rfl, rfl⟩) | fail)
        have HZ2 : Hid (((w1.setCell ⟨w.heap.size, 0, none⟩ (.string (bs l1))).setCell ⟨w.heap.size, 1, none⟩ (.int .i64 (e1 : Nat))).heap.size = w1.heap.size) := Lib.hid (by simp)
        generalize (w1.setCell ⟨w.heap.size, 0, none⟩ (.string (bs l1))).setCell ⟨w.heap.size, 1, none⟩ (.int .i64 (e1 : Nat)) = W2 at HB2 HZ2
        have hzB : w.heap.size + 1 + 1 < w1.heap.size := hz
        have HB3 := Lib.hid (HB2.out.keep ((Below.refl _ W2).alloc (Nat.le_refl _) (.cells #[.int .i64 (o : Nat), .int .i64 0] 65)))
        have i0 : (W2.alloc (.cells #[.int .i64 (o : Nat), .int .i64 0] 65)).cell? ⟨w1.heap.size, 0, none⟩ = some (.int .i64 (o : Nat)) := by rw [← HZ2.out]; simp
        have i1 : (W2.alloc (.cells #[.int .i64 (o : Nat), .int .i64 0] 65)).cell? ⟨w1.heap.size, 1, none⟩ = some (.int .i64 0) := by rw [← HZ2.out]; simp
        have j1 : (W2.alloc (.cells #[.int .i64 (o : Nat), .int .i64 0] 65)).frozen? ⟨w1.heap.size, 1, none⟩ = false := by rw [← HZ2.out]; exact frozen_new _ _ _ _
        clear a0 a1 g0 g1 hz hzw hzw1 HB2 HZ2
        generalize W2.alloc (.cells #[.int .i64 (o : Nat), .int .i64 0] 65) = W3 at HB3 i0 i1 j1
        refine (HI.out _).mono ?_
        rintro r w4 ⟨rfl, hb4⟩
        have HB4 := Lib.hid (HB3.out.keep hb4)
        have hz4 : w1.heap.size < w4.heap.size := by have := block_lt_of_cell i0; have := hb4.size; simp at *; omega
        have k0 := (hb4.cell (p := ⟨w1.heap.size, 0, none⟩) (block_lt_of_cell i0)).trans i0
        have k1 := (hb4.cell (p := ⟨w1.heap.size, 1, none⟩) (block_lt_of_cell i1)).trans i1
        have m1 := (hb4.frozen (p := ⟨w1.heap.size, 1, none⟩) (block_lt_of_cell i1)).trans j1
        clear hb4 HB3 i0 i1 j1
        go_wp2_with fail
        have hzS : (w4.setCell ⟨w1.heap.size, 1, none⟩ (.int .i64 ag)).heap.size = w4.heap.size := by simp
        have HB5 := Lib.hid ((HB4.out.far (p := ⟨w1.heap.size, 1, none⟩) hzB (.int .i64 ag)).keep ((Below.refl _ _).alloc (Nat.le_refl _) (.cells #[.string (bs l2), .int .i64 (e2 : Nat)] 89)))
        have i0 : ((w4.setCell ⟨w1.heap.size, 1, none⟩ (.int .i64 ag)).alloc (.cells #[.string (bs l2), .int .i64 (e2 : Nat)] 89)).cell? ⟨w1.heap.size, 0, none⟩ = some (.int .i64 (o : Nat)) := by
          rw [World.cell?_alloc_lt _ _ _ (by rw [hzS]; exact hz4), World.cell?_setCell_other _ _ _ _ (by simp)]; exact k0
        have i1 : ((w4.setCell ⟨w1.heap.size, 1, none⟩ (.int .i64 ag)).alloc (.cells #[.string (bs l2), .int .i64 (e2 : Nat)] 89)).cell? ⟨w1.heap.size, 1, none⟩ = some (.int .i64 ag) := by
          rw [World.cell?_alloc_lt _ _ _ (by rw [hzS]; exact hz4)]; exact World.cell?_setCell_same _ _ _ k1
        have s0 : ((w4.setCell ⟨w1.heap.size, 1, none⟩ (.int .i64 ag)).alloc (.cells #[.string (bs l2), .int .i64 (e2 : Nat)] 89)).cell? ⟨w4.heap.size, 0, none⟩ = some (.string (bs l2)) := (cell_new _ _ hzS _ _ 0).trans rfl
        have s1 : ((w4.setCell ⟨w1.heap.size, 1, none⟩ (.int .i64 ag)).alloc (.cells #[.string (bs l2), .int .i64 (e2 : Nat)] 89)).cell? ⟨w4.heap.size, 1, none⟩ = some (.int .i64 (e2 : Nat)) := (cell_new _ _ hzS _ _ 1).trans rfl
        clear k0 k1 m1 HB4 hzS
        generalize (w4.setCell ⟨w1.heap.size, 1, none⟩ (.int .i64 ag)).alloc (.cells #[.string (bs l2), .int .i64 (e2 : Nat)] 89) = W3 at HB5 i0 i1 s0 s1
        have b0 := (HB5.out.c2 0).trans rfl
        have b1 := (HB5.out.c2 1).trans rfl
        have d0 := (HB5.out.c3 0).trans rfl
        have d1 := (HB5.out.c3 1).trans rfl
        have p0 := HB5.out.f2 0
        have p1 := HB5.out.f2 1
        have q0 := HB5.out.f3 0
        have q1 := HB5.out.f3 1
        have hz1 := HB5.out.sz
        have hz2 : w.heap.size + 1 < W3.heap.size := by omega
        have hz5 := block_lt_of_cell i0
        have hz6 := block_lt_of_cell s0
        have ne1 : w1.heap.size ≠ w.heap.size + 1 := by omega
        have ne2 : w1.heap.size ≠ w.heap.size + 1 + 1 := by omega
        have ne3 : w4.heap.size ≠ w.heap.size + 1 := by omega
        have ne4 : w4.heap.size ≠ w.heap.size + 1 + 1 := by omega
        go_region
        all_goals (go_wp2; exact bodyPost_ret (v := .tuple #[.agg #[.string (bs l2), .int .i64 e2], .agg #[.int .i64 o, .int .i64 ag]]) (by simp [results, Tryd.results61, go_sem, b0, b1, d0, d1]) rfl ⟨by rw [HS2.out], by first | exact (((HB5.out.bel.setCell (by simp) _).setCell (by simp) _).setCell (by simp; omega) _).setCell (by simp; omega) _ | exact ((((HB5.out.bel.drew).setCell (by simp) _).setCell (by simp) _).setCell (by simp; omega) _).setCell (by simp; omega) _⟩)
end Go.Proofs.YtmonbjlkkhpinaaDoor
