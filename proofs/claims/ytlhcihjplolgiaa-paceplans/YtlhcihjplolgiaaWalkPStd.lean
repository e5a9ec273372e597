/-
  The walk of the law PaceSteady.
-/
import Derived.Test.YtlhcihjplolgiaaWalkPRow
namespace Go.Proofs.Ytlhcihjplolgiaa
open Go.RowKit
set_option linter.unusedVariables false

theorem adds_rep (t : Int) (h : 0 ≤ t) (k : Nat) (hk : k < 8) : addsS (List.replicate k t) [t] = List.replicate (k + 1) t := by
  show addS (List.replicate k t) t = _
  rw [add_short _ _ (by simpa using hk), show max t 0 = t by omega, List.replicate_succ']
theorem next_rep (t T D : Int) (h : mayP T D = true) : nextS (List.replicate 8 t) T D = stepP (List.replicate 8 t) T D := by
  unfold nextS; rw [if_neg (by simp [h])]
theorem adds_long1 (L ks : List Int) (h : L.length ≤ 8) : (addsS L ks).length = min (L.length + ks.length) 8 := by
  rw [← last8_short L h]; rw [addsS_len]; simp [last8]; omega
structure StdAt (w W : World) (M X k : Nat) (t d : Int) : Prop where
  m : MeterAt W M (List.replicate 8 (k : Int))
  bel : Below w.heap.size w W
  x0 : W.cell? ⟨X, 0, none⟩ = some (.int .i64 t)
  x1 : W.cell? ⟨X, 1, none⟩ = some (.int .i64 d)
  fz : ∀ j, W.frozen? ⟨X, j, none⟩ = false
theorem StdAt.keep {w W W' : World} {M X k : Nat} {t d : Int} (h : StdAt w W M X k t d) (hb : Below W.heap.size W W') : StdAt w W' M X k t d :=
  ⟨h.m.below hb, h.bel.trans (hb.mono h.bel.size), (hb.cell (block_lt_of_cell h.x0)).trans h.x0, (hb.cell (block_lt_of_cell h.x1)).trans h.x1, fun j => (hb.frozen (p := ⟨X, j, none⟩) (show X < W.heap.size from block_lt_of_cell h.x0)).trans (h.fz j)⟩
theorem StdAt.set {w W : World} {M X k : Nat} {t d : Int} (h : StdAt w W M X k t d) (hMX : M ≠ X) (hXw : w.heap.size ≤ X) (t' d' : Int) : StdAt w ((W.setCell ⟨X, 0, none⟩ (.int .i64 t')).setCell ⟨X, 1, none⟩ (.int .i64 d')) M X k t' d' := by
  have ht : Touch (fun b => b = X) W ((W.setCell ⟨X, 0, none⟩ (.int .i64 t')).setCell ⟨X, 1, none⟩ (.int .i64 d')) := ((Touch.refl (fun b => b = X) W).setCell (p := ⟨X, 0, none⟩) (fun _ => rfl) _).setCell (p := ⟨X, 1, none⟩) (fun _ => rfl) _
  refine ⟨h.m.touch ht hMX, h.bel.trans (ht.below h.bel.size (fun j hj e => by omega)), ?_, ?_, fun j => by simpa using h.fz j⟩
  · exact (World.cell?_setCell_other _ _ _ _ (by simp)).trans (World.cell?_setCell_same _ _ _ h.x0)
  · exact World.cell?_setCell_same _ _ _ ((World.cell?_setCell_other _ _ _ _ (by simp)).trans h.x1)
structure StdC (w W : World) (M X k : Nat) (t d : Int) : Prop where
  m : MeterAt W M (List.replicate 8 (k : Int))
  bel : Below w.heap.size w W
  x0 : W.cell? ⟨X, 0, none⟩ = some (.int .i64 t)
  x1 : W.cell? ⟨X, 1, none⟩ = some (.int .i64 d)
theorem StdC.keep {w W W' : World} {M X k : Nat} {t d : Int} (h : StdC w W M X k t d) (hb : Below W.heap.size W W') : StdC w W' M X k t d :=
  ⟨h.m.below hb, h.bel.trans (hb.mono h.bel.size), (hb.cell (block_lt_of_cell h.x0)).trans h.x0, (hb.cell (block_lt_of_cell h.x1)).trans h.x1⟩
/-- A drawn region whose operations read, or call what keeps a class of worlds: one walk, in the order of the text. -/
theorem wp_region_cls {P : Program} {C : World → Prop} {id : Nat} {Q : Exit → Act → World → Prop} {a : Act} {w : World} {l : List Oper} (hm : P.follows .mixedOrders = true) (hB : Region.lexB .any l.toArray = true) (hC : C { w with drawn := w.drawn + 1 })
    (h : wpQuiet P l.toArray C (fun a' => ∀ w', C w' → Q .normal a' w') l a) : (Code.region id l.toArray true).wp P Q a w :=
  wp_region_quiet (C := C) hm hB hC (by simpa using h)
set_option maxRecDepth 100000 in
set_option maxHeartbeats 2000000 in
theorem paceSteady_walk (x y z : Int) (w : World) : Calls Try.prog 13 #[.int .i64 x, .int .i64 y, .int .i64 z] w fun r w' => r = .returned (.bool true) ∧ Below w.heap.size w w' := by
  have HAW := Lib.hid (awake17_any w)
  obtain ⟨k, hk, e1⟩ := and17 1023 1023 (by decide) (by decide) z
  have k0 : (0 : Int) ≤ (k : Int) := by omega
  have k1 : (k : Int) ≤ 1023 := by omega
  go_enter Try.func13, Try.ntmps13
  go_wp2_with fail
  refine HAW.out.mono ?_
  rintro r w1 ⟨rfl, hb1⟩
  have HB1 := Lib.hid hb1
  have hM : w.heap.size ≤ w1.heap.size := hb1.size
  clear hb1 HAW
  go_upto_region 5 with (fail)
  have HM1 := Lib.hid (meter_new w1 #[.int .i64 0, .int .i64 0, .int .i64 0, .int .i64 0, .int .i64 0, .int .i64 0, .int .i64 0, .int .i64 0, .int .i64 0] rfl)
  have HB2 := Lib.hid (bel_alloc HB1.out (.cells #[.int .i64 0, .int .i64 0, .int .i64 0, .int .i64 0, .int .i64 0, .int .i64 0, .int .i64 0, .int .i64 0, .int .i64 0] 80))
  clear HB1
  generalize w1.alloc (.cells #[.int .i64 0, .int .i64 0, .int .i64 0, .int .i64 0, .int .i64 0, .int .i64 0, .int .i64 0, .int .i64 0, .int .i64 0] 80) = W2 at HM1 HB2 ⊢
  generalize w1.heap.size = M at HM1 hM ⊢
  go_wp2
  go_loopw [14] (fun v14 wr => ∃ i : Nat, i ≤ 8 ∧ v14 = .int .i64 (i : Int) ∧ Hid (MeterAt wr M (List.replicate i (k : Int)) ∧ Below w.heap.size w wr)) (fun v14 _ => 8 - (intOf v14).toNat)
  case atStart => exact ⟨0, by omega, rfl, Lib.hid ⟨HM1.out, HB2.out⟩⟩
  case round =>
    obtain ⟨i, hi, rfl, HM⟩ := hrel
    have i0 : (0 : Int) ≤ (i : Int) := by omega
    by_cases hlt : i < 8
    · have hlt' : (i : Int) < 8 := by omega
      have HB3 := Lib.hid (bel_alloc HM.out.2 (.cells #[.int .i64 (k : Int)] 3))
      have HM3 := Lib.hid (HM.out.1.below (bel_alloc (Below.refl _ _) (.cells #[.int .i64 (k : Int)] 3)))
      have HAD := Lib.hid (madd_any M (List.replicate i (k : Int)) (some ⟨wr.heap.size, 0, none⟩) 1 [(k : Int)] _ HM3.out (fun _ => ⟨wr.heap.size, 0, rfl, fun j hj => by
        obtain rfl : j = 0 := by simpa using hj
        exact new_cell rfl rfl⟩) (fun _ x hx => by cases hx; have := HM.out.1.lt; simp; omega) (fun x hx => by simp at hx; subst hx; unfold bound64; omega) (by unfold maxLen; simp))
      rw [adds_rep (k : Int) (by omega) i hlt] at HAD
      go_wp2_with fail
      refine HAD.out.mono ?_
      rintro r w3 ⟨rfl, hm3⟩
      have HR := Lib.hid (And.intro hm3.1 (HB3.out.trans (hm3.2.below HB3.out.size (fun j hj e => by omega))))
      clear hm3 HAD HM3 HB3 HM
      go_wp2
      go_roundw
      case rel => exact ⟨i + 1, by omega, by go_num, HR⟩
      case measure => simp [intOf] <;> omega
    · obtain rfl : i = 8 := by omega
      have HM8 := HM
      clear HM hlt i0 hi
      go_wp2_with fail
      refine (right17_any x y wr).mono ?_
      rintro r w6 ⟨T, D, rfl, hmay, hb6⟩
      have HMA := Lib.hid hmay
      have HM6 := Lib.hid (HM8.out.1.below hb6)
      have HB6 := Lib.hid (HM8.out.2.trans (hb6.mono HM8.out.2.size))
      clear hb6 HM8 hmay
      go_upto_region 10 with (fail)
      have hA : Below w6.heap.size w6 (w6.alloc (.cells #[.int .i64 T, .int .i64 D] 82)) := bel_alloc (Below.refl _ _) _
      have x0 : (w6.alloc (.cells #[.int .i64 T, .int .i64 D] 82)).cell? ⟨w6.heap.size, 0, none⟩ = some (.int .i64 T) := new_cell rfl rfl
      have x1 : (w6.alloc (.cells #[.int .i64 T, .int .i64 D] 82)).cell? ⟨w6.heap.size, 1, none⟩ = some (.int .i64 D) := new_cell rfl rfl
      have hfz : ∀ j, (w6.alloc (.cells #[.int .i64 T, .int .i64 D] 82)).frozen? ⟨w6.heap.size, j, none⟩ = false := fun j => frozen_new _ _ _ _
      have hMX : M ≠ w6.heap.size := by have := HM6.out.lt; omega
      have hXw : w.heap.size ≤ w6.heap.size := HB6.out.size
      have HST := Lib.hid (show StdAt w (w6.alloc (.cells #[.int .i64 T, .int .i64 D] 82)) M w6.heap.size k T D from ⟨HM6.out.below hA, HB6.out.trans (hA.mono HB6.out.size), x0, x1, hfz⟩)
      clear hA x0 x1 hfz HM6 HB6
      generalize w6.alloc (.cells #[.int .i64 T, .int .i64 D] 82) = W7 at HST ⊢
      generalize w6.heap.size = X at HST hMX hXw ⊢
      go_wp2
      go_loopw [23] (fun v23 wr => ∃ i : Nat, i ≤ 200 ∧ v23 = .int .i64 (i : Int) ∧ Hid (StdAt w wr M X k (stepsP (List.replicate 8 (k : Int)) i T D).1 (stepsP (List.replicate 8 (k : Int)) i T D).2)) (fun v23 _ => 200 - (intOf v23).toNat)
      case atStart => exact ⟨0, by omega, rfl, Lib.hid HST.out⟩
      case round =>
        clear HST
        obtain ⟨i, hi, rfl, HS⟩ := hrel
        have i0 : (0 : Int) ≤ (i : Int) := by omega
        have hmi := steps_may (List.replicate 8 (k : Int)) T D HMA.out i
        by_cases hlt : i < 200
        · have hlt' : (i : Int) < 200 := by omega
          have HSE := Lib.hid (show stepsP (List.replicate 8 (k : Int)) (i + 1) T D = stepP (List.replicate 8 (k : Int)) (stepsP (List.replicate 8 (k : Int)) i T D).1 (stepsP (List.replicate 8 (k : Int)) i T D).2 from rfl)
          generalize (stepsP (List.replicate 8 (k : Int)) i T D).1 = ti at HS HSE hmi
          generalize (stepsP (List.replicate 8 (k : Int)) i T D).2 = di at HS HSE hmi
          have HNX := Lib.hid ((mnext_any M (List.replicate 8 (k : Int)) ti di wr HS.out.m).mono (R' := fun r w' => r = .returned (.agg #[.int .i64 (stepP (List.replicate 8 (k : Int)) ti di).1, .int .i64 (stepP (List.replicate 8 (k : Int)) ti di).2]) ∧ Below wr.heap.size wr w') fun r w' h => ⟨by rw [← next_rep (k : Int) ti di hmi]; exact h.1, h.2⟩)
          rw [← HSE.out] at HNX
          have hx0 := HS.out.x0
          have hx1 := HS.out.x1
          clear hmi HSE
          go_wp2_with fail
          refine HNX.out.mono ?_
          rintro r w3 ⟨rfl, hb3⟩
          have HS3 := Lib.hid (HS.out.keep hb3)
          clear hb3 HNX HS hx0 hx1
          generalize hT : (stepsP (List.replicate 8 (k : Int)) (i + 1) T D).1 = tj
          generalize hD : (stepsP (List.replicate 8 (k : Int)) (i + 1) T D).2 = dj
          have HT := Lib.hid (And.intro hT hD)
          clear hT hD
          obtain ⟨-, -, y0, y1, hf⟩ := HS3.out
          go_wp2
          go_roundw
          case rel => exact ⟨i + 1, by omega, by go_num, Lib.hid (by rw [HT.out.1, HT.out.2]; exact HS3.out.set hMX hXw tj dj)⟩
          case measure => simp [intOf] <;> omega
        · obtain rfl : i = 200 := by omega
          clear hlt i0 hi hmi
          obtain ⟨T', D', hTD⟩ : ∃ T' D', stepsP (List.replicate 8 (k : Int)) 200 T D = (T', D') := ⟨_, _, rfl⟩
          obtain ⟨hst, hmay, hen⟩ := rest_200 (k : Int) T D HMA.out k0 k1 T' D' hTD
          rw [hTD] at HS
          have HNX := Lib.hid (fun W (h : MeterAt W M (List.replicate 8 (k : Int))) => (mnext_any M (List.replicate 8 (k : Int)) T' D' W h).mono (R' := fun r w' => r = .returned (.agg #[.int .i64 T', .int .i64 D']) ∧ Below W.heap.size W w') fun r w' h => ⟨by rw [h.1, next_rep (k : Int) T' D' hmay, hst], h.2⟩)
          have HCK := Lib.hid (fun W => (pcheck17_any T' D' W).mono (R' := fun r w' => r = .returned (.int .i64 0) ∧ Below W.heap.size W w') fun r w' h => ⟨by rw [h.1, hmay]; rfl, by rw [h.2]; exact bel_alloc (Below.refl _ _) _⟩)
          obtain ⟨⟨t1, t2⟩, d1, d2⟩ := mayP_iff.1 hmay
          have hcs : (0 ≤ T' * D' ∧ T' * D' ≤ 384 ∧ (k : Int) ≤ T' * D') ∨ (T' = 64 ∧ D' = 6 ∧ 384 < (k : Int)) := by
            have p0 : 0 ≤ T' * D' := Int.mul_nonneg (by omega) (by omega)
            have p1 : T' * D' ≤ 64 * 6 := Int.mul_le_mul (by omega) (by omega) (by omega) (by omega)
            by_cases hle : (k : Int) ≤ T' * D'
            · exact .inl ⟨p0, by omega, hle⟩
            · rcases hen with h | ⟨h1, h2⟩
              · exact absurd h hle
              · subst h1; subst h2; exact .inr ⟨rfl, rfl, by omega⟩
          have HMM := Lib.hid (HS.out.m.below (Below.refl _ _).drew)
          have HB := Lib.hid HS.out.bel.drew
          obtain ⟨-, -, x0, x1, -⟩ := HS.out
          clear hst hmay hen hTD HS
          rcases hcs with ⟨p0, p1, p2⟩ | ⟨rfl, rfl, p2⟩
          · have hw9 : IntKind.i64.wrap (T' * D') = T' * D' := by rw [IntKind.wrap_i64]; omega
            have e9 : decide ((k : Int) ≤ T' * D') = true := decide_eq_true p2
            go_wp2_with fail
            refine wp_region_cls (C := fun W => StdC w W M X k T' D') (by kernel_rfl) (by kernel_rfl) ⟨HMM.out, HB.out, x0, x1⟩ ?_
            repeat
              (refine wpQuiet_step (fun K hK => ?_)
               go_simp
               first
                 | (refine hK _ ?_; clear hK K)
                 | (apply Exists.intro
                    refine ⟨fun W hW => ?_, hK _ ?_⟩
                    (first
                      | (go_at_call 52; exact (HCK.out W).mono fun r W' h => ⟨h.1, hW.keep h.2⟩)
                      | (go_at_call 45; exact (HNX.out W hW.m).mono fun r W' h => ⟨h.1, hW.keep h.2⟩)
                      | (have y0 := hW.x0; have y1 := hW.x1; clear hW; go_simp; first | exact ⟨rfl, rfl⟩ | exact rfl | trivial))
                    clear hK K))
            refine wpQuiet_nil ?_
            intro W9 hW9
            have HBK := Lib.hid hW9.bel
            clear hW9
            go_wp2
            go_ret
            exact ⟨rfl, HBK.out⟩
          · have e9 : decide ((k : Int) ≤ 384) = false := decide_eq_false (by omega)
            go_wp2_with fail
            go_region_held3 (fun w' => w'.cell? ⟨X, 0, none⟩ = some (.int .i64 64) ∧ w'.cell? ⟨X, 1, none⟩ = some (.int .i64 6))
              (first | assumption | (refine keep2p hbK ?_; assumption) | exact ⟨x0, x1⟩)
              (first
                | (go_at_call 52; refine (HCK.out _).mono ?_; rintro r wK ⟨rfl, hbK⟩; have HMM := Lib.hid (HMM.out.below hbK); have HB := Lib.hid (HB.out.trans (hbK.mono HB.out.size)))
                | (go_at_call 45; refine (HNX.out _ HMM.out).mono ?_; rintro r wK ⟨rfl, hbK⟩; have HMM := Lib.hid (HMM.out.below hbK); have HB := Lib.hid (HB.out.trans (hbK.mono HB.out.size))))
            all_goals
              have HBK := Lib.hid HB.out
              go_wp2
              go_ret
              exact ⟨rfl, HBK.out⟩
end Go.Proofs.Ytlhcihjplolgiaa
