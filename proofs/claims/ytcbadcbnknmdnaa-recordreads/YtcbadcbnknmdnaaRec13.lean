/-
  Layer 20: the answers that the document fixes.
-/
import Derived.Test.YtcbadcbnknmdnaaRec12
import Derived.Test.YtcbadcbnknmdnaaRosR4
namespace Go.Proofs.Ytcbadcbnknmdnaa
open Go.RowKit
set_option linter.unusedVariables false

def R20 : Rec := ⟨3, [], 0, 0, [⟨0, []⟩]⟩
theorem recB20 : recB R20 = [3, 0, 0, 0, 1, 0, 0] := by
  unfold R20 recB chsB plsB plB batchB countsB numsB ordsB
  simp [numB_lt]
  decide
theorem dom20 : RecDom R20 := ⟨by decide, by decide, ⟨by decide, by simp [R20]⟩, by decide, by decide, by decide, by decide, by decide, by simp [R20, PlDom, BatchDom]⟩
theorem recS20 : recS ([3, 0, 0, 0, 1, 0, 0], 0) = (([], 0), R20) := by
  have h := recC.back R20 [] dom20
  rw [List.append_nil, recB20] at h
  exact h
theorem is20 (w : World) (b : Nat) (h : w.cell? ⟨b, 0, none⟩ = some (.int .i64 0) ∧ w.cell? ⟨b, 1, none⟩ = some (.slice none 0 0)) : RecIs w R20 none [] (some ⟨b, 0, none⟩) [[.int .i64 0, .slice none 0 0]] := by
  refine ⟨⟨fun h => by simp at h, ChIs.nil w⟩, fun _ => ⟨b, 0, rfl, fun i hi j hj => ?_⟩, rfl, fun i hi hi' => ?_⟩
  · obtain rfl : i = 0 := by simpa using hi
    have hj2 : j = 0 ∨ j = 1 := by omega
    rcases hj2 with rfl | rfl
    · exact h.1
    · exact h.2
  · obtain rfl : i = 0 := by simpa using hi
    exact ⟨none, 0, rfl, fun h => by simp [R20, ordsI] at h, fun _ => rfl⟩
theorem of20 : ofP [0] = 1 := by decide
theorem lst20 : plP R20.pl = lstP 1 := by decide
theorem with20 : withP 1 0 R20.ch = (1, 0, 0) := by simp [withP, runP, R20]
theorem keep7d {w w' : World} {X Z : Nat} {x0 x1 x2 x3 x4 z0 z1 : Value} (hb : Below w.heap.size w w') (h : (w.cell? ⟨X, 0, none⟩ = some x0 ∧ w.cell? ⟨X, 1, none⟩ = some x1 ∧ w.cell? ⟨X, 2, none⟩ = some x2) ∧ (w.cell? ⟨X, 3, none⟩ = some x3 ∧ w.cell? ⟨X, 4, none⟩ = some x4) ∧ (w.cell? ⟨Z, 0, none⟩ = some z0 ∧ w.cell? ⟨Z, 4, none⟩ = some z1)) :
    (w'.cell? ⟨X, 0, none⟩ = some x0 ∧ w'.cell? ⟨X, 1, none⟩ = some x1 ∧ w'.cell? ⟨X, 2, none⟩ = some x2) ∧ (w'.cell? ⟨X, 3, none⟩ = some x3 ∧ w'.cell? ⟨X, 4, none⟩ = some x4) ∧ (w'.cell? ⟨Z, 0, none⟩ = some z0 ∧ w'.cell? ⟨Z, 4, none⟩ = some z1) :=
  ⟨keep3r hb h.1, ⟨(hb.cell (block_lt_of_cell h.2.1.1)).trans h.2.1.1, (hb.cell (block_lt_of_cell h.2.1.2)).trans h.2.1.2⟩, ⟨(hb.cell (block_lt_of_cell h.2.2.1)).trans h.2.2.1, (hb.cell (block_lt_of_cell h.2.2.2)).trans h.2.2.2⟩⟩
theorem keep7a {w : World} {X Z : Nat} {x0 x1 x2 x3 x4 z0 z1 : Value} (o : Obj) (h : (w.cell? ⟨X, 0, none⟩ = some x0 ∧ w.cell? ⟨X, 1, none⟩ = some x1 ∧ w.cell? ⟨X, 2, none⟩ = some x2) ∧ (w.cell? ⟨X, 3, none⟩ = some x3 ∧ w.cell? ⟨X, 4, none⟩ = some x4) ∧ (w.cell? ⟨Z, 0, none⟩ = some z0 ∧ w.cell? ⟨Z, 4, none⟩ = some z1)) :
    ((w.alloc o).cell? ⟨X, 0, none⟩ = some x0 ∧ (w.alloc o).cell? ⟨X, 1, none⟩ = some x1 ∧ (w.alloc o).cell? ⟨X, 2, none⟩ = some x2) ∧ ((w.alloc o).cell? ⟨X, 3, none⟩ = some x3 ∧ (w.alloc o).cell? ⟨X, 4, none⟩ = some x4) ∧ ((w.alloc o).cell? ⟨Z, 0, none⟩ = some z0 ∧ (w.alloc o).cell? ⟨Z, 4, none⟩ = some z1) := keep7d (bel_alloc (Below.refl _ _) _) h
set_option maxRecDepth 100000 in
set_option maxHeartbeats 4000000 in
theorem awake20_any (w : World) : Calls Try.prog 11 #[] w fun r w' => r = .returned (.bool true) ∧ Below w.heap.size w w' := by
  have HPA := Lib.hid (fun W => recParse_any ⟨#[3, 0, 0, 0, 1, 0, 0]⟩ W (by decide))
  rw [show (⟨#[3, 0, 0, 0, 1, 0, 0]⟩ : ByteArray).data.toList = [3, 0, 0, 0, 1, 0, 0] from rfl] at HPA
  unfold recQ at HPA
  rw [recS20] at HPA
  rw [show recP ((([] : List UInt8), 0), R20) = R20 from rfl, show (endS (((([] : List UInt8), 0), R20) : St × Rec).1).2 = 0 from rfl] at HPA
  unfold RpPost at HPA
  have HTX := Lib.hid (fun g W (h : RecIs W R20 none [] (some ⟨g, 0, none⟩) [[.int .i64 0, .slice none 0 0]]) => recText_any R20 none 0 0 [] (some ⟨g, 0, none⟩) 1 1 [[.int .i64 0, .slice none 0 0]] W h dom20 rfl rfl)
  have HOF := Lib.hid (fun W a (h : IntRow .i64 W a [0]) => rof_any a 1 [0] W h (by decide))
  have HC3 := Lib.hid (fun g W (h : RecIs W R20 none [] (some ⟨g, 0, none⟩) [[.int .i64 0, .slice none 0 0]]) => recCheck_any R20 none 0 0 [] (some ⟨g, 0, none⟩) 1 1 [[.int .i64 0, .slice none 0 0]] 1 0 W 1 0 0 0 (by decide) (by decide) h rfl rfl (by decide) dom20.2.2.1 (fun q hq => (dom20.2.2.2.2.2.2.2.2 q hq).2.2) (.inl ⟨rfl, rfl⟩) with20 (.inr (.inl ⟨rfl, lst20, rfl⟩)))
  have HC4 := Lib.hid (fun g W => recCheck_turn R20 none 0 0 (some ⟨g, 0, none⟩) 1 1 1 0 4 W (by decide))
  rw [recB20] at HTX
  rw [of20] at HOF
  unfold recV at HTX HC3 HC4 HPA
  unfold rosV at HOF HC3 HC4
  simp only [R20] at HTX HC3 HC4
  simp only [show ((1 : Nat) : Int) = 1 from rfl] at HOF HC3 HC4
  have HBS : Hid (bs [3, 0, 0, 0, 1, 0, 0] = ⟨#[3, 0, 0, 0, 1, 0, 0]⟩) := Lib.hid rfl
  rw [HBS.out] at HTX
  have hA1 := bel_alloc (Below.refl _ w) (.cells #[.int .i64 0, .slice none 0 0] 52)
  have HI1 := Lib.hid (is20 (w.alloc (.cells #[.int .i64 0, .slice none 0 0] 52)) w.heap.size ⟨new_cell rfl rfl, new_cell rfl rfl⟩)
  have HA2 := Lib.hid (bel_alloc hA1 (.cells #[.int .i64 3, .slice none 0 0, .int .i64 0, .int .i64 0, .slice (some ⟨w.heap.size, 0, none⟩) 1 1] 34))
  have e1 : (w.alloc (.cells #[.int .i64 0, .slice none 0 0] 52)).heap.size = w.heap.size + 1 := by simp
  have HX : Hid (Cs ((w.alloc (.cells #[.int .i64 0, .slice none 0 0] 52)).alloc (.cells #[.int .i64 3, .slice none 0 0, .int .i64 0, .int .i64 0, .slice (some ⟨w.heap.size, 0, none⟩) 1 1] 34)) (w.heap.size + 1) [.int .i64 3, .slice none 0 0, .int .i64 0, .int .i64 0, .slice (some ⟨w.heap.size, 0, none⟩) 1 1]) := Lib.hid (Cs.new e1.symm rfl)
  have HI2 := Lib.hid (HI1.out.below (bel_alloc (Below.refl _ _) (.cells #[.int .i64 3, .slice none 0 0, .int .i64 0, .int .i64 0, .slice (some ⟨w.heap.size, 0, none⟩) 1 1] 34)))
  clear hA1 HI1 e1
  go_enter Try.func11, Try.ntmps11
  go_wp2_with fail
  generalize (w.alloc (.cells #[.int .i64 0, .slice none 0 0] 52)).alloc (.cells #[.int .i64 3, .slice none 0 0, .int .i64 0, .int .i64 0, .slice (some ⟨w.heap.size, 0, none⟩) 1 1] 34) = W1 at HA2 HX HI2 ⊢
  generalize w.heap.size + 1 = X at HX ⊢
  generalize hG : w.heap.size = G at HX HI2 ⊢
  have HG := Lib.hid hG
  clear hG
  refine (HPA.out _).mono ?_
  rintro r w2 ⟨a, c, ls, a2, c2, ls2, rfl, hb2, hin⟩
  have hl2 : ls2.length = 1 := hin.out.now.2.2.1
  rw [hl2]
  have HI3 := Lib.hid (HI2.out.below hb2)
  have HX3 := Lib.hid (HX.out.below hb2)
  have HB3 := Lib.hid (HA2.out.trans (hb2.mono HA2.out.size))
  clear hb2 hin hl2 HPA HX HI2 HA2
  have hA := bel_alloc (Below.refl _ w2) (.cells #[.int .i64 3, .slice a ls.length c, .int .i64 0, .int .i64 0, .slice a2 1 c2] 34)
  have HI4 := Lib.hid (HI3.out.below hA)
  have HX4 := Lib.hid (HX3.out.below hA)
  have HB4 := Lib.hid (HB3.out.trans (hA.mono HB3.out.size))
  have HZ4 : Hid (Cs (w2.alloc (.cells #[.int .i64 3, .slice a ls.length c, .int .i64 0, .int .i64 0, .slice a2 1 c2] 34)) w2.heap.size [.int .i64 3, .slice a ls.length c, .int .i64 0, .int .i64 0, .slice a2 1 c2]) := Lib.hid (Cs.new rfl rfl)
  clear hA HI3 HX3 HB3
  simp only [R20]
  go_upto_region 3 with (fail)
  generalize w2.alloc (.cells #[.int .i64 3, .slice a ls.length c, .int .i64 0, .int .i64 0, .slice a2 1 c2] 34) = W3 at HI4 HX4 HB4 HZ4 ⊢
  generalize w2.heap.size = Z at HZ4 ⊢
  have x0 : W3.cell? ⟨X, 0, none⟩ = some (.int .i64 3) := HX4.out 0 (by simp)
  have x1 : W3.cell? ⟨X, 1, none⟩ = some (.slice none 0 0) := HX4.out 1 (by simp)
  have x2 : W3.cell? ⟨X, 2, none⟩ = some (.int .i64 0) := HX4.out 2 (by simp)
  have x3 : W3.cell? ⟨X, 3, none⟩ = some (.int .i64 0) := HX4.out 3 (by simp)
  have x4 : W3.cell? ⟨X, 4, none⟩ = some (.slice (some ⟨G, 0, none⟩) 1 1) := HX4.out 4 (by simp)
  have z0 : W3.cell? ⟨Z, 0, none⟩ = some (.int .i64 3) := HZ4.out 0 (by simp)
  have z4 : W3.cell? ⟨Z, 4, none⟩ = some (.slice a2 1 c2) := HZ4.out 4 (by simp)
  have hX := block_lt_of_cell x0
  have hZ := block_lt_of_cell z0
  simp only at hX hZ
  have HB := Lib.hid (Below.refl W3.heap.size W3).drew
  clear HX4 HZ4
  go_region_held3 (fun w' => (w'.cell? ⟨X, 0, none⟩ = some (.int .i64 3) ∧ w'.cell? ⟨X, 1, none⟩ = some (.slice none 0 0) ∧ w'.cell? ⟨X, 2, none⟩ = some (.int .i64 0)) ∧ (w'.cell? ⟨X, 3, none⟩ = some (.int .i64 0) ∧ w'.cell? ⟨X, 4, none⟩ = some (.slice (some ⟨G, 0, none⟩) 1 1)) ∧ (w'.cell? ⟨Z, 0, none⟩ = some (.int .i64 3) ∧ w'.cell? ⟨Z, 4, none⟩ = some (.slice a2 1 c2)))
    (first | (refine keep7d hbK ?_; assumption) | (refine keep7a _ ?_; assumption) | assumption | exact ⟨⟨x0, x1, x2⟩, ⟨x3, x4⟩, z0, z4⟩)
    (first
      | (go_at_call 14; refine (HTX.out G _ (HI4.out.below HB.out)).mono ?_; rintro r wK ⟨rfl, hbK⟩; have HB := Lib.hid (HB.out.trans (hbK.mono HB.out.size)))
      | (go_at_call 12; refine (HOF.out _ _ (intRow1 (new_cell rfl rfl))).mono ?_; rintro r wK ⟨rfl, hbK⟩; have HB := Lib.hid ((bel_alloc HB.out (.cells #[.int .i64 0] 3)).trans (hbK.mono (bel_alloc HB.out (.cells #[.int .i64 0] 3)).size)))
      | (go_at_call 16; (first | with_reducible refine (HC3.out G _ (HI4.out.below HB.out)).mono ?_ | with_reducible refine (HC4.out G _).mono ?_); rintro r wK ⟨rfl, hbK⟩; have HB := Lib.hid (HB.out.trans (hbK.mono HB.out.size))))
  all_goals
    have HBZ := Lib.hid (HB4.out.trans (HB.out.mono HB4.out.size))
    go_wp2
    go_ret
    exact ⟨rfl, HBZ.out⟩
end Go.Proofs.Ytcbadcbnknmdnaa
