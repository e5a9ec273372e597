/-
  The walk of the law OrderChecks.
-/
import Derived.Test.YtapiaogmmoofkaaValidBoth
import Derived.Test.YtapiaogmmoofkaaAwake9
import Derived.Test.YtapiaogmmoofkaaOrdTidy
namespace Go.Proofs.Ytapiaogmmoofkaa
open Go.RowKit
set_option linter.unusedVariables false

/-- The law's own blocks, which no table has. -/
def KC (n X Y k : Nat) : Prop := k < n ∨ k = X ∨ k = Y
theorem keep6 {W w' : World} (hb : Below W.heap.size W w') {X Y : Nat} {x y z u x' y' : Value} (h : (W.cell? ⟨X, 0, none⟩ = some x ∧ W.cell? ⟨X, 1, none⟩ = some y ∧ W.cell? ⟨X, 2, none⟩ = some z ∧ W.cell? ⟨X, 3, none⟩ = some u) ∧ (W.cell? ⟨Y, 0, none⟩ = some x' ∧ W.cell? ⟨Y, 1, none⟩ = some y')) :
    (w'.cell? ⟨X, 0, none⟩ = some x ∧ w'.cell? ⟨X, 1, none⟩ = some y ∧ w'.cell? ⟨X, 2, none⟩ = some z ∧ w'.cell? ⟨X, 3, none⟩ = some u) ∧ (w'.cell? ⟨Y, 0, none⟩ = some x' ∧ w'.cell? ⟨Y, 1, none⟩ = some y') := by
  have hX := block_lt_of_cell h.1.1
  have hY := block_lt_of_cell h.2.1
  exact ⟨⟨(hb.cell (p := ⟨X, 0, none⟩) hX).trans h.1.1, (hb.cell (p := ⟨X, 1, none⟩) hX).trans h.1.2.1, (hb.cell (p := ⟨X, 2, none⟩) hX).trans h.1.2.2.1, (hb.cell (p := ⟨X, 3, none⟩) hX).trans h.1.2.2.2⟩,
    (hb.cell (p := ⟨Y, 0, none⟩) hY).trans h.2.1, (hb.cell (p := ⟨Y, 1, none⟩) hY).trans h.2.2⟩
/-- The law's memory: both tables, the order's box X, the document's box Y. -/
structure ChkMem (n X Y b : Nat) (v : List Int) (us : List Un) (g : Int) (a : Option Addr) (c : Nat) (wr : World) : Prop where
  mem : DoMem (KC n X Y) b us g a c wr
  x : ∀ j, j < 4 → wr.cell? ⟨X, j, none⟩ = some (.int .i64 (v.getD j 0))
  y0 : wr.cell? ⟨Y, 0, none⟩ = some (.slice a us.length c)
  y1 : wr.cell? ⟨Y, 1, none⟩ = some (.int .i64 (g + 1))
  z0 : wr.frozen? ⟨Y, 0, none⟩ = false
  z1 : wr.frozen? ⟨Y, 1, none⟩ = false
  far : ∀ x, a = some x → Y < x.block
  lo : n ≤ Y ∧ X ≠ Y
theorem ChkMem.keep {n X Y b : Nat} {v : List Int} {us : List Un} {g : Int} {a : Option Addr} {c : Nat} {wr w' : World} (h : ChkMem n X Y b v us g a c wr) (hb : Below wr.heap.size wr w') : ChkMem n X Y b v us g a c w' :=
  ⟨h.mem.keep hb, fun j hj => (hb.cell (p := ⟨X, j, none⟩) (block_lt_of_cell (h.x j hj))).trans (h.x j hj), (hb.cell (p := ⟨Y, 0, none⟩) (block_lt_of_cell h.y0)).trans h.y0, (hb.cell (p := ⟨Y, 1, none⟩) (block_lt_of_cell h.y1)).trans h.y1,
    ((touch_of_below (S := fun _ => False) hb).frozen (p := ⟨Y, 0, none⟩) (block_lt_of_cell h.y0) id).trans h.z0, ((touch_of_below (S := fun _ => False) hb).frozen (p := ⟨Y, 1, none⟩) (block_lt_of_cell h.y1) id).trans h.z1, h.far, h.lo⟩
theorem ChkMem.does {n X Y b : Nat} {v : List Int} {us us' : List Un} {g g' : Int} {a a' : Option Addr} {c c' : Nat} {wr w' : World} (h : ChkMem n X Y b v us g a c wr) (h2 : DoMem (KC n X Y) b us' g' a' c' w') (ht : Touch (fun k => ¬ KC n X Y k) wr w') (ha : a' = a ∨ ∀ x, a' = some x → wr.heap.size ≤ x.block) :
    w'.frozen? ⟨Y, 0, none⟩ = false ∧ w'.frozen? ⟨Y, 1, none⟩ = false ∧ (∃ o0, w'.cell? ⟨Y, 0, none⟩ = some o0) ∧ (∃ o1, w'.cell? ⟨Y, 1, none⟩ = some o1) ∧
    ChkMem n X Y b v us' g' a' c' ((w'.setCell ⟨Y, 0, none⟩ (.slice a' us'.length c')).setCell ⟨Y, 1, none⟩ (.int .i64 (g' + 1))) ∧ Below n wr ((w'.setCell ⟨Y, 0, none⟩ (.slice a' us'.length c')).setCell ⟨Y, 1, none⟩ (.int .i64 (g' + 1))) := by
  have nY : ¬ ¬ KC n X Y Y := fun hn => hn (.inr (.inr rfl))
  have nX : ¬ ¬ KC n X Y X := fun hn => hn (.inr (.inl rfl))
  have hY := block_lt_of_cell h.y0
  simp only at hY
  have y0 := (ht.cell (p := ⟨Y, 0, none⟩) hY nY).trans h.y0
  have y1 := (ht.cell (p := ⟨Y, 1, none⟩) hY nY).trans h.y1
  have z0 := (ht.frozen (p := ⟨Y, 0, none⟩) hY nY).trans h.z0
  have z1 := (ht.frozen (p := ⟨Y, 1, none⟩) hY nY).trans h.z1
  have hs := set2r_touch w' Y (.slice a' us'.length c') (.int .i64 (g' + 1))
  unfold set2r at hs
  have far : ∀ x, a' = some x → Y < x.block := fun x hx => by
    rcases ha with e | e
    · exact h.far x (e ▸ hx)
    · have := e x hx; omega
  have hlo := h.lo
  refine ⟨z0, z1, ⟨_, y0⟩, ⟨_, y1⟩, ⟨h2.set hs (fun k hk => .inr (.inr hk)) (fun x hx e => by have := far x hx; omega), fun j hj => ?_, set2_same0 y0, set2_same1 y1, by simpa using z0, by simpa using z1, far, h.lo⟩, ?_⟩
  · have e := (ht.cell (p := ⟨X, j, none⟩) (block_lt_of_cell (h.x j hj)) nX).trans (h.x j hj)
    exact (hs.cell (p := ⟨X, j, none⟩) (block_lt_of_cell e) (fun e => hlo.2 e)).trans e
  · refine (ht.below (by omega) (fun k hk hn => hn (.inl hk))).trans ((hs.below (B := n) ?_ (fun k hk e => ?_)))
    · have := ht.size; omega
    · omega
set_option maxRecDepth 100000 in
set_option maxHeartbeats 4000000 in
theorem orderChecks_walk (w : World) (ok ou oa ob pl : Int) (a : Option Addr) (len cap : Nat) (ls : List (List Int)) (h : RecArg 7 w a len cap ls) :
    Calls Try.prog 8 #[.agg #[.int .i64 ok, .int .i64 ou, .int .i64 oa, .int .i64 ob], .slice a len cap, .int .i64 pl] w fun e w' => e = .returned (.bool true) ∧ Below w.heap.size w w' := by
  obtain ⟨rfl, hlc, hcm, hwide, hrow, -, -⟩ := h
  unfold maxLen at hcm
  have HROW := Lib.hid hrow
  have HAW := Lib.hid (fun W => awake9_any W)
  clear hrow hwide
  go_enter Try.func8, Try.ntmps8
  go_wp2_with fail
  refine (HAW.out _).mono ?_
  rintro e w1 ⟨rfl, hb1⟩
  have x0 : w1.cell? ⟨w.heap.size, 0, none⟩ = some (.int .i64 ok) := (hb1.cell (p := ⟨w.heap.size, 0, none⟩) (by simp)).trans (by simp)
  have x1 : w1.cell? ⟨w.heap.size, 1, none⟩ = some (.int .i64 ou) := (hb1.cell (p := ⟨w.heap.size, 1, none⟩) (by simp)).trans (by simp)
  have x2 : w1.cell? ⟨w.heap.size, 2, none⟩ = some (.int .i64 oa) := (hb1.cell (p := ⟨w.heap.size, 2, none⟩) (by simp)).trans (by simp)
  have x3 : w1.cell? ⟨w.heap.size, 3, none⟩ = some (.int .i64 ob) := (hb1.cell (p := ⟨w.heap.size, 3, none⟩) (by simp)).trans (by simp)
  have hX := block_lt_of_cell x0
  simp only at hX
  have HB1 := Lib.hid (show Below w.heap.size w w1 from (bel_alloc (Below.refl _ w) _).trans (hb1.mono (by simp)))
  have HX := Lib.hid (show (w1.cell? ⟨w.heap.size, 0, none⟩ = some (.int .i64 ok) ∧ w1.cell? ⟨w.heap.size, 1, none⟩ = some (.int .i64 ou) ∧ w1.cell? ⟨w.heap.size, 2, none⟩ = some (.int .i64 oa) ∧ w1.cell? ⟨w.heap.size, 3, none⟩ = some (.int .i64 ob)) from ⟨x0, x1, x2, x3⟩)
  have HNEW := Lib.hid (tabNew_any (fun k => k < w.heap.size + 1) w1 (fun k hk => by omega))
  clear hb1 HAW x0 x1 x2 x3
  go_wp2_with fail
  refine HNEW.out.mono ?_
  rintro e w2 ⟨rfl, hq2, hb2⟩
  have HQ2 := Lib.hid hq2
  have HB2 := Lib.hid (HB1.out.trans (hb2.mono HB1.out.size))
  have HX2 := Lib.hid (show ∀ j, j < 4 → w2.cell? ⟨w.heap.size, j, none⟩ = some (.int .i64 ([ok, ou, oa, ob].getD j 0)) from fun j hj => by
    have e : j = 0 ∨ j = 1 ∨ j = 2 ∨ j = 3 := by omega
    rcases e with rfl | rfl | rfl | rfl
    · exact (hb2.cell (p := ⟨w.heap.size, 0, none⟩) hX).trans HX.out.1
    · exact (hb2.cell (p := ⟨w.heap.size, 1, none⟩) hX).trans HX.out.2.1
    · exact (hb2.cell (p := ⟨w.heap.size, 2, none⟩) hX).trans HX.out.2.2.1
    · exact (hb2.cell (p := ⟨w.heap.size, 3, none⟩) hX).trans HX.out.2.2.2)
  have hs2 := hb2.size
  have HM2 : Hid (ChkMem w.heap.size w.heap.size w2.heap.size w1.heap.size [ok, ou, oa, ob] [] 0 none 0 (w2.alloc (.cells #[.slice none 0 0, .int .i64 1] 28)) ∧ Below w.heap.size w (w2.alloc (.cells #[.slice none 0 0, .int .i64 1] 28))) := by
    refine Lib.hid ⟨⟨⟨?_, ⟨fun h => by simp [unsI] at h, fun _ => rfl, by simp, by simp [maxLen]⟩⟩, fun j hj => alloc_cell (HX2.out j hj) _, new_cell rfl rfl, new_cell rfl rfl, frozen_new _ _ _ _, frozen_new _ _ _ _, fun x hx => (by cases hx), by omega, by omega⟩, HB2.out.alloc (by have := HB2.out.size; omega) _⟩
    refine (HQ2.out.grow (N := fun k => k = w2.heap.size) (bel_alloc (Below.refl _ _) _) (fun k hk => by subst hk; simp)).sub (fun k hk => ?_)
    rcases hk with (h | h | h) | h
    · exact .inl (by omega)
    · exact .inl (by omega)
    · exact .inr h
    · simp at h
  clear hq2 hb2 HNEW HB1 HQ2 HB2 HX2 HX
  go_wp2
  generalize w1.heap.size = b at HM2 ⊢
  generalize hY : w2.heap.size = Y at HM2 ⊢
  go_loopw [9] (fun iv wr => ∃ (k : Nat) (us : List Un) (g : Int) (a5 : Option Addr) (c5 : Nat), k ≤ ls.length ∧ k ≤ 30 ∧ iv = .int .i64 k ∧ Hid (ChkMem w.heap.size w.heap.size Y b [ok, ou, oa, ob] us g a5 c5 wr ∧ Below w.heap.size w wr)) (fun iv _ => 30 - (intOf iv).toNat)
  case atStart => exact ⟨0, [], 0, none, 0, by omega, by omega, rfl, HM2⟩
  case round =>
    obtain ⟨k, us, g, a5, c5, hk, hk30, rfl, HM⟩ := hrel
    by_cases hlt : k < ls.length
    · by_cases hlt2 : k < 30
      · obtain ⟨ab, aoff, rfl, hcell⟩ := RecRow.below (by decide) HROW.out HM.out.2 (by omega)
        have c0 := hcell k hlt 0 (by decide)
        have c1 := hcell k hlt 1 (by decide)
        have c2 := hcell k hlt 2 (by decide)
        have c3 := hcell k hlt 3 (by decide)
        have c4 := hcell k hlt 4 (by decide)
        have c5' := hcell k hlt 5 (by decide)
        have c6 := hcell k hlt 6 (by decide)
        rw [Nat.add_zero] at c0
        have hab := block_lt_of_cell c0
        clear hcell
        generalize ls[k].getD 0 0 = v0 at c0
        generalize ls[k].getD 1 0 = v1 at c1
        generalize ls[k].getD 2 0 = v2 at c2
        generalize ls[k].getD 3 0 = v3 at c3
        generalize ls[k].getD 4 0 = v4 at c4
        generalize ls[k].getD 5 0 = v5 at c5'
        generalize ls[k].getD 6 0 = v6 at c6
        have y0 := HM.out.1.y0
        have y1 := HM.out.1.y1
        have hYl := block_lt_of_cell y0
        simp only at hYl hab
        have HMD := Lib.hid (HM.out.1.keep (w' := wr.drew) (Below.refl _ wr).drew)
        have HD := Lib.hid (does_any (KC w.heap.size w.heap.size Y) b us g a5 c5 wr.drew v0 v1 v2 v3 v4 v5 v6 HMD.out.mem)
        have HBD := Lib.hid HM.out.2.drew
        clear HM
        have hk0 : (0 : Int) ≤ (k : Int) := by omega
        have hk1 : (k : Int) < (ls.length : Int) := by omega
        have hk2 : (k : Int) < (30 : Int) := by omega
        generalize us.length = un at HD y0
        go_upto_region 8 with (fail)
        go_region_law (first
          | (go_simp; go_at_call 14; refine HD.out.mono ?_; rintro e w4 ⟨us', g', a6, c6', rfl, hm4, ht4, ha4⟩; obtain ⟨z0, z1, ⟨o0, y0'⟩, ⟨o1, y1'⟩, hm5, hb5⟩ := HMD.out.does hm4 ht4 ha4; have HM5 := Lib.hid (show _ ∧ Below w.heap.size w _ from ⟨hm5, HBD.out.trans hb5⟩); have hY4 := block_lt_of_cell y0'; simp only at hY4; clear hm4 ht4 ha4 hm5 hb5))
        all_goals
          go_wp2
          go_roundw
          case rel => exact ⟨k + 1, us', g', a6, c6', by omega, by omega, by go_num, HM5⟩
          case measure => simp [intOf]; omega
      · have hk2 : decide ((k : Int) < (30 : Int)) = false := by simp; omega
        have hk1 : decide ((k : Int) < (ls.length : Int)) = true := by simp; omega
        obtain ⟨v, hv1, hv2⟩ := valid_both (K := KA (KC w.heap.size w.heap.size Y) a5) b us g ok ou oa ob pl HM.out.1.mem.tab.ok
        have HV1 := Lib.hid hv1
        have HV2 := Lib.hid hv2
        have HC1 := Lib.hid (fun W => ordCheck_any ⟨ok, ou, oa, ob⟩ W)
        have HC2 := Lib.hid (fun W => refOrdCheck_any ⟨ok, ou, oa, ob⟩ W)
        unfold ordV at HC1 HC2
        simp only at HC1 HC2
        generalize checkN ⟨ok, ou, oa, ob⟩ = cn at HC1 HC2
        clear hv1 hv2
        have x0 := HM.out.1.x 0 (by decide)
        have x1 := HM.out.1.x 1 (by decide)
        have x2 := HM.out.1.x 2 (by decide)
        have x3 := HM.out.1.x 3 (by decide)
        simp only [List.getD_cons_succ, List.getD_cons_zero] at x0 x1 x2 x3
        have y0 := HM.out.1.y0
        have y1 := HM.out.1.y1
        have hXl := block_lt_of_cell x0
        have hYl := block_lt_of_cell y0
        simp only at hXl hYl
        have HMc := Lib.hid (HM.out.1.keep (w' := wr.drew) (Below.refl _ wr).drew)
        have HBc := Lib.hid HM.out.2.drew
        clear HM
        generalize hul : us.length = un at HV2 y0
        have HUL := Lib.hid hul
        clear hul
        go_upto_region 9 with (fail)
        go_region_held3 (fun w' => (w'.cell? ⟨w.heap.size, 0, none⟩ = some (.int .i64 ok) ∧ w'.cell? ⟨w.heap.size, 1, none⟩ = some (.int .i64 ou) ∧ w'.cell? ⟨w.heap.size, 2, none⟩ = some (.int .i64 oa) ∧ w'.cell? ⟨w.heap.size, 3, none⟩ = some (.int .i64 ob)) ∧ (w'.cell? ⟨Y, 0, none⟩ = some (.slice a5 un c5) ∧ w'.cell? ⟨Y, 1, none⟩ = some (.int .i64 (g + 1))))
          (first | (refine keep6 hbK ?_; assumption) | exact ⟨⟨x0, x1, x2, x3⟩, y0, y1⟩)
          (first
            | (go_at_call 32; refine (HC1.out _).mono ?_; rintro e wK ⟨rfl, hbK⟩; have HMc := Lib.hid (HMc.out.keep hbK); have HBc := Lib.hid (HBc.out.trans (hbK.mono HBc.out.size)))
            | (go_at_call 33; refine (HC2.out _).mono ?_; rintro e wK ⟨rfl, hbK⟩; have HMc := Lib.hid (HMc.out.keep hbK); have HBc := Lib.hid (HBc.out.trans (hbK.mono HBc.out.size)))
            | (go_at_call 34; refine (HV1.out _ HMc.out.mem.tab).mono ?_; rintro e wK ⟨rfl, hbK⟩; have HMc := Lib.hid (HMc.out.keep hbK); have HBc := Lib.hid (HBc.out.trans (hbK.mono HBc.out.size)))
            | (go_at_call 35; refine (HV2.out _ _ _ _ HMc.out.mem.rt).mono ?_; rintro e wK ⟨rfl, hbK⟩; have HMc := Lib.hid (HMc.out.keep hbK); have HBc := Lib.hid (HBc.out.trans (hbK.mono HBc.out.size))))
        all_goals
          have HBK := Lib.hid HBc.out
          go_wp2
          go_ret
          exact ⟨rfl, HBK.out⟩
    · have hk1 : decide ((k : Int) < (ls.length : Int)) = false := by simp; omega
      obtain ⟨v, hv1, hv2⟩ := valid_both (K := KA (KC w.heap.size w.heap.size Y) a5) b us g ok ou oa ob pl HM.out.1.mem.tab.ok
      have HV1 := Lib.hid hv1
      have HV2 := Lib.hid hv2
      have HC1 := Lib.hid (fun W => ordCheck_any ⟨ok, ou, oa, ob⟩ W)
      have HC2 := Lib.hid (fun W => refOrdCheck_any ⟨ok, ou, oa, ob⟩ W)
      unfold ordV at HC1 HC2
      simp only at HC1 HC2
      generalize checkN ⟨ok, ou, oa, ob⟩ = cn at HC1 HC2
      clear hv1 hv2
      have x0 := HM.out.1.x 0 (by decide)
      have x1 := HM.out.1.x 1 (by decide)
      have x2 := HM.out.1.x 2 (by decide)
      have x3 := HM.out.1.x 3 (by decide)
      simp only [List.getD_cons_succ, List.getD_cons_zero] at x0 x1 x2 x3
      have y0 := HM.out.1.y0
      have y1 := HM.out.1.y1
      have hXl := block_lt_of_cell x0
      have hYl := block_lt_of_cell y0
      simp only at hXl hYl
      have HMc := Lib.hid (HM.out.1.keep (w' := wr.drew) (Below.refl _ wr).drew)
      have HBc := Lib.hid HM.out.2.drew
      clear HM
      generalize hul : us.length = un at HV2 y0
      have HUL := Lib.hid hul
      clear hul
      go_upto_region 9 with (fail)
      go_region_held3 (fun w' => (w'.cell? ⟨w.heap.size, 0, none⟩ = some (.int .i64 ok) ∧ w'.cell? ⟨w.heap.size, 1, none⟩ = some (.int .i64 ou) ∧ w'.cell? ⟨w.heap.size, 2, none⟩ = some (.int .i64 oa) ∧ w'.cell? ⟨w.heap.size, 3, none⟩ = some (.int .i64 ob)) ∧ (w'.cell? ⟨Y, 0, none⟩ = some (.slice a5 un c5) ∧ w'.cell? ⟨Y, 1, none⟩ = some (.int .i64 (g + 1))))
        (first | (refine keep6 hbK ?_; assumption) | exact ⟨⟨x0, x1, x2, x3⟩, y0, y1⟩)
        (first
          | (go_at_call 32; refine (HC1.out _).mono ?_; rintro e wK ⟨rfl, hbK⟩; have HMc := Lib.hid (HMc.out.keep hbK); have HBc := Lib.hid (HBc.out.trans (hbK.mono HBc.out.size)))
          | (go_at_call 33; refine (HC2.out _).mono ?_; rintro e wK ⟨rfl, hbK⟩; have HMc := Lib.hid (HMc.out.keep hbK); have HBc := Lib.hid (HBc.out.trans (hbK.mono HBc.out.size)))
          | (go_at_call 34; refine (HV1.out _ HMc.out.mem.tab).mono ?_; rintro e wK ⟨rfl, hbK⟩; have HMc := Lib.hid (HMc.out.keep hbK); have HBc := Lib.hid (HBc.out.trans (hbK.mono HBc.out.size)))
          | (go_at_call 35; refine (HV2.out _ _ _ _ HMc.out.mem.rt).mono ?_; rintro e wK ⟨rfl, hbK⟩; have HMc := Lib.hid (HMc.out.keep hbK); have HBc := Lib.hid (HBc.out.trans (hbK.mono HBc.out.size))))
      all_goals
        have HBK := Lib.hid HBc.out
        go_wp2
        go_ret
        exact ⟨rfl, HBK.out⟩
end Go.Proofs.Ytapiaogmmoofkaa
