/-
  Layer 9: a batch of a text; the calls at the head of the laws.
-/
import Derived.Test.YthggfjjiohdbmaaOrdMath
namespace Go.Proofs.Ythggfjjiohdbmaa
open Go.RowKit
set_option linter.unusedVariables false

/-- What Parse answers. -/
def OParsePost (w : World) (t : List Ord × Nat) (r : Ending) (w' : World) : Prop :=
  ∃ a c, r = .returned (.tuple #[.slice a t.1.length c, .int .i64 (t.2 : Nat)]) ∧ OrdRow w' a t.1 ∧ Below w.heap.size w w'
set_option maxHeartbeats 1000000 in
theorem ordParse_any (l : List UInt8) (w : World) (hl : l.length ≤ 1000000) : Calls Try.prog 12 #[.string (bs l)] w (OParsePost w (parseO l)) := by
  have HO := Lib.hid (open_any (bs l) w (by rw [bs_size]; omega))
  rw [bs_list] at HO
  have hp : OParsePost w (parseO l) = OParsePost w (if (endS (batchS (l, 0)).1).2 ≠ 0 then ([], (endS (batchS (l, 0)).1).2) else ((batchS (l, 0)).2, 0)) := rfl
  have HR := Lib.hid (fun (W : World) (h : InSt W w.heap.size (l, 0)) => ordRead_any w.heap.size (l, 0) W h)
  have herr := parseO_err l
  generalize OParsePost w (parseO l) = Post at hp
  generalize batchS (l, 0) = t at HR herr hp
  obtain ⟨⟨l1, e1⟩, m⟩ := t
  have HP := Lib.hid hp
  have HERR := Lib.hid herr
  simp only at HERR HP
  clear hp herr
  go_enter Try.func12, Try.ntmps12
  go_wp2_with fail
  refine HO.out.mono ?_
  rintro r w1 ⟨rfl, hi1, hb1⟩
  have HI1 := Lib.hid hi1
  have HB1 := Lib.hid hb1
  clear hi1 hb1 HO
  go_wp2_with fail
  refine (HR.out _ HI1.out).mono ?_
  rintro r w2 ⟨a2, c2, rfl, hi2, hr2, ha2⟩
  simp only at hi2 hr2
  generalize hmm : (if e1 = 0 then m else []) = mm at hr2 ⊢
  have HMM := Lib.hid hmm
  clear hmm
  have HI2 := Lib.hid hi2
  have HR2 := Lib.hid hr2
  have HA2 := Lib.hid ha2
  have HE := Lib.hid (end_any w.heap.size l1 e1 w2 hi2.1)
  clear hi2 hr2 ha2 HR
  generalize endS (l1, e1) = t2 at HE HP HERR
  obtain ⟨l3, e3⟩ := t2
  simp only at HE HP HERR ⊢
  go_wp2_with fail
  refine HE.out.mono ?_
  rintro r w3 ⟨rfl, hi3⟩
  have HB3 := Lib.hid (show Below w.heap.size w w3 from HB1.out.trans ((HI2.out.2.trans hi3.2).below HB1.out.size (fun k hk e => by omega)))
  have HR3 : Hid (OrdRow w3 a2 mm) := Lib.hid (RecRow.touch (by decide) HR2.out hi3.2 (fun x hx e => by have := HA2.out x hx; have := HI1.out.lt; omega))
  clear hi3 HE
  by_cases he : e3 = 0
  · subst he
    have h1 := HERR.out rfl
    subst h1
    have hm := HMM.out
    rw [if_pos rfl] at hm
    subst hm
    go_wp2
    rw [HP.out]
    refine ⟨a2, c2, ?_, by simpa using HR3.out, HB3.out⟩
    simp
  · have heb : ((e3 : Int) != 0) = true := by simp; omega
    have HEN := Lib.hid he
    clear he
    go_wp2
    rw [HP.out, if_pos HEN.out]
    refine ⟨none, 0, ?_, fun h => by simp [ordsI] at h, HB3.out⟩
    simp
theorem awakeB : batchB [⟨1, 1, 2, -1⟩] = [1, 1, 1, 4, 1] := by decide +kernel
theorem awakeD : BatchDom [⟨1, 1, 2, -1⟩] := ⟨by decide, by intro o ho; simp at ho; subst ho; rfl⟩
theorem awakeP : parseO [1, 1, 1, 4, 1] = ([⟨1, 1, 2, -1⟩], 0) := by rw [← awakeB]; exact parseO_back _ awakeD
theorem awakeL : (bs [1, 1, 1, 4, 1]).toList = [1, 1, 1, 4, 1] := by simp [bs]
theorem keep8 {W w' : World} (hb : Below W.heap.size W w') {X Y o p : Nat} {x y z u x' y' z' u' : Value} (h : (W.cell? ⟨X, o, none⟩ = some x ∧ W.cell? ⟨X, o + 1, none⟩ = some y ∧ W.cell? ⟨X, o + 2, none⟩ = some z ∧ W.cell? ⟨X, o + 3, none⟩ = some u) ∧ (W.cell? ⟨Y, p, none⟩ = some x' ∧ W.cell? ⟨Y, p + 1, none⟩ = some y' ∧ W.cell? ⟨Y, p + 2, none⟩ = some z' ∧ W.cell? ⟨Y, p + 3, none⟩ = some u')) :
    (w'.cell? ⟨X, o, none⟩ = some x ∧ w'.cell? ⟨X, o + 1, none⟩ = some y ∧ w'.cell? ⟨X, o + 2, none⟩ = some z ∧ w'.cell? ⟨X, o + 3, none⟩ = some u) ∧ (w'.cell? ⟨Y, p, none⟩ = some x' ∧ w'.cell? ⟨Y, p + 1, none⟩ = some y' ∧ w'.cell? ⟨Y, p + 2, none⟩ = some z' ∧ w'.cell? ⟨Y, p + 3, none⟩ = some u') := by
  have hX := block_lt_of_cell h.1.1
  have hY := block_lt_of_cell h.2.1
  exact ⟨⟨(hb.cell (p := ⟨X, o, none⟩) hX).trans h.1.1, (hb.cell (p := ⟨X, o + 1, none⟩) hX).trans h.1.2.1, (hb.cell (p := ⟨X, o + 2, none⟩) hX).trans h.1.2.2.1, (hb.cell (p := ⟨X, o + 3, none⟩) hX).trans h.1.2.2.2⟩,
    ⟨(hb.cell (p := ⟨Y, p, none⟩) hY).trans h.2.1, (hb.cell (p := ⟨Y, p + 1, none⟩) hY).trans h.2.2.1, (hb.cell (p := ⟨Y, p + 2, none⟩) hY).trans h.2.2.2.1, (hb.cell (p := ⟨Y, p + 3, none⟩) hY).trans h.2.2.2.2⟩⟩
set_option maxRecDepth 100000 in
set_option maxHeartbeats 4000000 in
theorem awake9_any (w : World) : Calls Try.prog 4 #[] w fun e w' => e = .returned (.bool true) ∧ Below w.heap.size w w' := by
  have HOF := Lib.hid (ordOf_any (some ⟨w.heap.size, 0, none⟩) 1 [⟨1, 1, 2, -1⟩] (w.alloc (.cells #[.int .i64 1, .int .i64 1, .int .i64 2, .int .i64 (-1)] 23)) (by decide) (by decide) (RecRow.lit w [[1, 1, 2, -1]] (ordsI_wide [⟨1, 1, 2, -1⟩]) _ _ rfl) (fun h => by cases h))
  have HPA := Lib.hid (fun W => ordParse_any [1, 1, 1, 4, 1] W (by decide))
  rw [awakeP] at HPA
  have hlit : (bs [1, 1, 1, 4, 1]) = { data := #[1, 1, 1, 4, 1] } := rfl
  have HCK := Lib.hid (fun W => ordCheck_any ⟨0, 0, 0, 0⟩ W)
  go_enter Try.func4, Try.ntmps4
  go_wp2_with fail
  refine HOF.out.mono ?_
  rintro r w1 ⟨a1, c1, rfl, hn1⟩
  have HB1 := Lib.hid (((Below.refl _ w).alloc (Nat.le_refl _) (.cells #[.int .i64 1, .int .i64 1, .int .i64 2, .int .i64 (-1)] 23)).trans (hn1.bel.mono (by simp)))
  have HR1 := Lib.hid hn1.row
  clear hn1 HOF
  simp only [List.take_succ_cons, List.take_nil, List.length_cons, List.length_nil, Nat.zero_add] at HR1 ⊢
  go_wp2_with fail
  refine (HPA.out _).mono ?_
  rintro r w2 ⟨a2, c2, rfl, hr2, hb2⟩
  obtain ⟨X, o, rfl, hX, c0, c1', c2', c3⟩ := hr2.at (i := 0) (by decide)
  obtain ⟨Y, p, rfl, hY, d0, d1, d2, d3⟩ := (HR1.out.below hb2).at (i := 0) (by decide)
  have HT := Lib.hid (fun W hr => ordText_any (some ⟨Y, p, none⟩) c1 [⟨1, 1, 2, -1⟩] W hr (fun o ho => ordDom_in (awakeD.2 o ho)) (by decide))
  rw [awakeB] at HT
  have HR2 : Hid (OrdRow w2.drew (some ⟨Y, p, none⟩) [⟨1, 1, 2, -1⟩]) := Lib.hid (HR1.out.below hb2.drew)
  have HB2 := Lib.hid (HB1.out.trans (hb2.mono HB1.out.size))
  clear hr2 hb2 HPA HB1 HR1
  simp only [Nat.zero_mul, Nat.add_zero, List.getElem_cons_zero, List.length_cons, List.length_nil, Nat.zero_add] at c0 c1' c2' c3 d0 d1 d2 d3 HT ⊢
  go_upto_region 3 with (fail)
  have hbs : ((bs [1, 1, 1, 4, 1]).toList == [1, 1, 1, 4, 1]) = true := by rw [awakeL]; rfl
  have HBc : Hid (Below w.heap.size w w2.drew) := Lib.hid HB2.out.drew
  go_region_held3 (fun w' => (w'.cell? ⟨X, o, none⟩ = some (.int .i64 1) ∧ w'.cell? ⟨X, o + 1, none⟩ = some (.int .i64 1) ∧ w'.cell? ⟨X, o + 2, none⟩ = some (.int .i64 2) ∧ w'.cell? ⟨X, o + 3, none⟩ = some (.int .i64 (-1))) ∧ (w'.cell? ⟨Y, p, none⟩ = some (.int .i64 1) ∧ w'.cell? ⟨Y, p + 1, none⟩ = some (.int .i64 1) ∧ w'.cell? ⟨Y, p + 2, none⟩ = some (.int .i64 2) ∧ w'.cell? ⟨Y, p + 3, none⟩ = some (.int .i64 (-1))))
    (first | (refine keep8 hbK ?_; assumption) | exact ⟨⟨c0, c1', c2', c3⟩, d0, d1, d2, d3⟩)
    (first
      | (go_at_call 13; refine (HT.out _ HR2.out).mono ?_; rintro e wK ⟨rfl, hbK⟩; have HBc := Lib.hid (HBc.out.trans (hbK.mono HBc.out.size)))
      | (go_at_call 7; refine (HCK.out _).mono ?_; rintro e wK ⟨rfl, hbK⟩; have HBc := Lib.hid (HBc.out.trans (hbK.mono HBc.out.size))))
  all_goals
    have HBK := Lib.hid HBc.out
    go_wp2
    go_ret
    exact ⟨rfl, HBK.out⟩
end Go.Proofs.Ythggfjjiohdbmaa
