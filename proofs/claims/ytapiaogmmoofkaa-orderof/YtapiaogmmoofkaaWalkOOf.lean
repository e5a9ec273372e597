/-
  The walk of the law OrderOf.
-/
import Derived.Test.YtapiaogmmoofkaaWalkOTexts
import Derived.Test.YtapiaogmmoofkaaRecSet
namespace Go.Proofs.Ytapiaogmmoofkaa
open Go.RowKit
set_option linter.unusedVariables false

/-- The orders, of the first k the kind one more. -/
def kindUp (o : Ord) : Ord := ⟨wrap64 (o.kind + 1), o.unit, o.a, o.b⟩
def bumpO (l : List Ord) (k : Nat) : List Ord := (l.take k).map kindUp ++ l.drop k
theorem bumpO_len (l : List Ord) (k : Nat) (h : k ≤ l.length) : (bumpO l k).length = l.length := by simp [bumpO]; omega
theorem bumpO_at (l : List Ord) (k : Nat) (h : k < l.length) (hb : k < (bumpO l k).length) : (bumpO l k)[k] = l[k] := by
  have : (bumpO l k)[k]? = some l[k] := by
    unfold bumpO
    rw [List.getElem?_append_right (by simp; omega)]
    simp [List.getElem?_drop, Nat.min_eq_left (Nat.le_of_lt h), h]
  rw [List.getElem?_eq_getElem hb] at this
  exact Option.some.inj this
theorem bumpO_succ (l : List Ord) (k : Nat) (h : k < l.length) : (bumpO l k).set k (kindUp l[k]) = bumpO l (k + 1) := by
  unfold bumpO
  rw [List.take_succ_eq_append_getElem h, List.map_append, List.append_assoc, List.set_append_right _ _ (by simp; omega)]
  congr 1
  rw [List.length_map, List.length_take, Nat.min_eq_left (Nat.le_of_lt h), Nat.sub_self, List.drop_eq_getElem_cons h]
  rfl
theorem wrap_neO (n : Int) (h : B64 n) : wrap64 (n + 1) ≠ n := by
  obtain ⟨h1, h2⟩ := h
  unfold wrap64
  omega
/-- The law's memory. -/
structure OfMem (w : World) (l : List Ord) (g c1 : Nat) (a2 : Option Addr) (k : Nat) (wr : World) : Prop where
  row1 : OwnRec 61 4 w.heap.size (some ⟨g, 0, none⟩) c1 (ordsI (bumpO l k)) wr
  row2 : OrdRow wr a2 (l.take 8)
  apart : ∀ x, a2 = some x → x.block ≠ g
  bel : Below w.heap.size w wr
theorem OfMem.drewN {w : World} {l : List Ord} {g c1 : Nat} {a2 : Option Addr} {k : Nat} {wr : World} (h : OfMem w l g c1 a2 k wr) (j : Nat) : OfMem w l g c1 a2 k (wr.drewN j) :=
  ⟨h.row1, h.row2, h.apart, ⟨h.bel.os, h.bel.tape, h.bel.output, h.bel.size, h.bel.block⟩⟩
theorem OfMem.step {w : World} {l : List Ord} {g c1 : Nat} {a2 : Option Addr} {k : Nat} {wr : World} (h : OfMem w l g c1 a2 k wr) (hk : k < l.length) :
    OfMem w l g c1 a2 (k + 1) (wr.setCell ⟨g, k * 4, none⟩ (.int .i64 (wrap64 (l[k].kind + 1)))) := by
  have hg := h.row1.2 _ rfl
  have ht : Touch (fun j => j = g) wr (wr.setCell ⟨g, k * 4, none⟩ (.int .i64 (wrap64 (l[k].kind + 1)))) := (Touch.refl (fun j => j = g) wr).setCell (p := ⟨g, k * 4, none⟩) (fun _ => rfl) _
  have hb : k < (bumpO l k).length := by rw [bumpO_len l k (by omega)]; exact hk
  have hb' : k < (ordsI (bumpO l k)).length := by rw [ordsI_len]; exact hb
  have h1 := h.row1.set (ordsI_wide _) k hb' 0 (by decide) (wrap64 (l[k].kind + 1))
  refine ⟨?_, RecRow.touch (by decide) h.row2 ht (fun x hx e => h.apart x hx e), h.apart, h.bel.setCell (by exact hg) _⟩
  have e : (ordsI (bumpO l k)).set k ((ordsI (bumpO l k))[k].set 0 (wrap64 (l[k].kind + 1))) = ordsI (bumpO l (k + 1)) := by
    rw [← bumpO_succ l k hk]
    have e0 : (ordsI (bumpO l k))[k] = l[k].ints := by
      have : (ordsI (bumpO l k))[k] = (bumpO l k)[k].ints := by simp [ordsI]
      rw [this, bumpO_at l k hk hb]
    rw [e0]
    unfold ordsI
    rw [List.map_set]
    rfl
  rw [e] at h1
  exact h1
theorem OfMem.at1 {w : World} {l : List Ord} {g c1 : Nat} {a2 : Option Addr} {k : Nat} {wr : World} (h : OfMem w l g c1 a2 k wr) {i : Nat} (hi : i < (bumpO l k).length) :
    wr.cell? ⟨g, i * 4, none⟩ = some (.int .i64 (bumpO l k)[i].kind) ∧ wr.cell? ⟨g, i * 4 + 1, none⟩ = some (.int .i64 (bumpO l k)[i].unit) ∧ wr.cell? ⟨g, i * 4 + 2, none⟩ = some (.int .i64 (bumpO l k)[i].a) ∧ wr.cell? ⟨g, i * 4 + 3, none⟩ = some (.int .i64 (bumpO l k)[i].b) := by
  obtain ⟨b, off, e, -, c0, c1, c2, c3⟩ := OrdRow.at (h.row1.row (ordsI_wide _) (by decide)) hi
  cases e
  simp only [Nat.zero_add] at c0 c1 c2 c3
  exact ⟨c0, c1, c2, c3⟩
set_option maxRecDepth 100000 in
set_option maxHeartbeats 4000000 in
theorem orderOf_walk (w : World) (a : Option Addr) (len cap : Nat) (l0 : List Ord) (h : OrdArg w a len cap l0) :
    Calls Try.prog 10 #[.slice a len cap] w fun e w' => e = .returned (.bool true) ∧ Below w.heap.size w w' := by
  have hcm := h.2.2.1
  unfold maxLen at hcm
  have hlc := h.2.1
  obtain ⟨k, l, hk, hlm, hk12, hkc, hrow, hnil, hok⟩ := h.cut 12
  have HOK := Lib.hid hok
  obtain ⟨a1, c1, w1, hrun, hnew⟩ := newOrd_all (t := 67) (u := 67) (ty := 67) (l := []) ordTy Try.underlying67 Try.underlying67 (newRec_made 61 4 w w (Below.refl _ _)) a cap (hrow.below ((Below.refl _ w).alloc (Nat.le_refl _) _)) hnil (by simp; omega)
  rw [List.nil_append] at hnew
  rw [List.length_nil, Nat.zero_add, hlm] at hrun
  have hc1 : k ≤ c1 := by
    have h1 := hnew.1
    rw [ordsI_len, hlm] at h1
    rcases h1.2 with ⟨hv, e⟩ | ⟨g, cap', cur, hv, -, -, hnc, -⟩
    · omega
    · cases hv; exact hnc
  have hc1m : c1 ≤ 9223372036854775807 := by
    have h1 := hnew.1
    rcases h1.2 with ⟨hv, e⟩ | ⟨g, cap', cur, hv, -, -, -, hcm', -⟩
    · simp at hv; omega
    · cases hv; exact hcm'
  have HRUN := Lib.hid hrun
  have HNEW := Lib.hid hnew
  have hof := ordOf_any a1 c1 l w1 (by omega) hc1m hnew.row (fun e => by
    subst e
    have := own_noneR hnew.1
    rw [ordsI_len] at this
    exact List.eq_nil_of_length_eq_zero this)
  rw [hlm] at hof
  have HOF := Lib.hid hof
  have HLM := Lib.hid hlm
  clear hrow hok hnil h hrun hnew hof
  have hn8 : ∃ n8, (l.take 8).length = n8 ∧ n8 ≤ k ∧ n8 ≤ 8 ∧ min (k : Int) 8 = (n8 : Int) ∧ n8 ≤ l.length ∧ (8 ≤ k → n8 = 8) ∧ (k ≤ 8 → n8 = k) := ⟨_, rfl, by simp; omega, by simp; omega, by simp; omega, by simp; omega, by simp; omega, by simp; omega⟩
  obtain ⟨n8, hn8, hn8k, hn88, hmin, hn8l, hn8e, hn8f⟩ := hn8
  have HN8 := Lib.hid hn8
  have HN8L := Lib.hid hn8l
  clear hn8 hn8l hlm
  rcases hk with ⟨rfl, h12⟩ | ⟨rfl, h12, x, rfl⟩
  · by_cases hk8 : k ≤ 8
    · obtain rfl : n8 = k := hn8f hk8
      clear hn8e hn8f hmin
      have hself : (((n8 : Nat) : Int) != ((n8 : Nat) : Int)) = false := by simp
      go_enter Try.func10, Try.ntmps10
      go_wp2_with (first | (at_builtin; refine wpList_append_run _ rfl (.tmp 10) (.tmp 11) 67 67 rfl _ _ rfl rfl _ w1 HRUN.out ?_) | fail)
      refine HOF.out.mono ?_
      rintro e w2 ⟨a2, c2, he, hn2⟩
      rw [HN8.out] at he
      subst he
      have HB2 := Lib.hid (HNEW.out.bel.trans (hn2.bel.mono HNEW.out.bel.size))
      have HR2 := Lib.hid hn2.row
      have HAP := Lib.hid (show ∀ x y, a1 = some x → a2 = some y → y.block ≠ x.block from fun x y hx hy e => by
            have h1 := hn2.2.1 y hy
            subst hx
            have := (HNEW.out.1.lt x.block (by simp [Value.ownBlock])).2
            omega)
      have HO1 := Lib.hid (OwnRec.touch (NewRec.own HNEW.out) (touch_of_below (S := fun _ => False) hn2.bel) (fun _ _ => id))
      have HAW := Lib.hid (awake9_any w2)
      clear hn2 HNEW HOF HRUN
      go_wp2_with fail
      refine HAW.out.mono ?_
      rintro e w3 ⟨rfl, hb3⟩
      have HB3 := Lib.hid (HB2.out.trans (hb3.mono HB2.out.size))
      have HR3 := Lib.hid (HR2.out.below hb3)
      have HO3 := Lib.hid (HO1.out.touch (touch_of_below (S := fun _ => False) hb3) (fun _ _ => id))
      clear hb3 HAW HB2 HR2 HO1
      go_wp2
      go_loopw [27] (fun i wr => ∃ j : Nat, j ≤ n8 ∧ i = .int .i64 j ∧ Hid (Below w.heap.size w wr ∧ OrdRow wr a2 (l.take 8) ∧ OwnRec 61 4 w.heap.size a1 c1 (ordsI (bumpO l j)) wr)) (fun i _ => n8 - (intOf i).toNat)
      case atStart => exact ⟨0, by omega, rfl, Lib.hid ⟨HB3.out, HR3.out, by have := HO3.out; simpa [bumpO] using this⟩⟩
      case round =>
        obtain ⟨j, hj, rfl, HM⟩ := hrel
        by_cases hlt : j < n8
        · have hjl : j < l.length := by have := HN8L.out; omega
          have hbl : j < (bumpO l j).length := by rw [bumpO_len l j (by omega)]; exact hjl
          obtain ⟨g, rfl⟩ := own_someR HM.out.2.2.1 (by rw [ordsI_len]; omega)
          obtain ⟨g2, o2, rfl, hg2, e0, e1, e2, e3⟩ := HM.out.2.1.at (i := j) (by rw [HN8.out]; exact hlt)
          have HMM : Hid (OfMem w l g c1 (some ⟨g2, o2, none⟩) j wr) := Lib.hid ⟨HM.out.2.2, HM.out.2.1, fun x hx => (by cases hx; exact HAP.out _ _ rfl rfl), HM.out.1⟩
          obtain ⟨d0, d1, d2, d3⟩ := HMM.out.at1 hbl
          have hfz := HM.out.2.2.1.frozenAt (j * 4)
          rw [bumpO_at l j hjl hbl] at d0 d1 d2 d3
          rw [show (l.take 8)[j]'(by rw [HN8.out]; exact hlt) = l[j] from List.getElem_take] at e0 e1 e2 e3
          have HST := Lib.hid (fun q => (HMM.out.drewN q).step hjl)
          have HAT : Hid (∀ h : j < (bumpO l (j + 1)).length, (bumpO l (j + 1))[j] = kindUp l[j]) := Lib.hid (fun h => by
            have h1 := bumpO_succ l j hjl
            have h2 : (bumpO l (j + 1))[j]? = some (kindUp l[j]) := by rw [← h1, List.getElem?_set_self hbl]
            rw [List.getElem?_eq_getElem h] at h2
            exact Option.some.inj h2)
          have hgne : g ≠ g2 := fun e => HMM.out.apart _ rfl e.symm
          have hkb : (l[j].kind == wrap64 (l[j].kind + 1)) = false := by
            have := wrap_neO _ (HOK.out _ (List.getElem_mem hjl)).1
            simp; omega
          generalize hx : l[j] = x at d0 d1 d2 d3 e0 e1 e2 e3 HST HAT hkb
          have HX := Lib.hid hx
          clear hx HM HMM
          obtain ⟨x0, x1, x2, x3⟩ := x
          simp only at d0 d1 d2 d3 e0 e1 e2 e3 HST hkb
          have hj0 : (0 : Int) ≤ (j : Int) := by omega
          have hj1 : (j : Int) < ((n8 : Nat) : Int) := by omega
          have hj2 : (j : Int) < ((n8 : Nat) : Int) := by omega
          go_upto_region 10 with (fail)
          go_quiet (fail)
          go_wp2
          have HS1 := Lib.hid (HST.out nq)
          clear HST d0 d1 d2 d3 e0 e1 e2 e3 hfz
          generalize (wr.drewN nq).setCell ⟨g, j * 4, none⟩ (.int .i64 (wrap64 (x0 + 1))) = W at HS1
          have hbl2 : j < (bumpO l (j + 1)).length := by rw [bumpO_len l (j + 1) (by omega)]; exact hjl
          obtain ⟨d0, d1, d2, d3⟩ := HS1.out.at1 hbl2
          rw [HAT.out hbl2] at d0 d1 d2 d3
          obtain ⟨g3, o3, he3, hg3, e0, e1, e2, e3⟩ := HS1.out.row2.at (i := j) (by rw [HN8.out]; exact hlt)
          cases he3
          rw [show (l.take 8)[j]'(by rw [HN8.out]; exact hlt) = l[j] from List.getElem_take, HX.out] at e0 e1 e2 e3
          unfold kindUp at d0 d1 d2 d3
          simp only at d0 d1 d2 d3 e0 e1 e2 e3
          go_upto_region 13 with (fail)
          go_quiet (fail)
          go_wp2
          go_roundw
          case rel => exact ⟨j + 1, by omega, by go_num, Lib.hid (have h := HS1.out.drewN _; ⟨h.bel, h.row2, h.row1⟩)⟩
          case measure => simp [intOf]; omega
        · go_wp2
          go_ret
          exact ⟨rfl, HM.out.1⟩
    · obtain rfl : n8 = 8 := hn8e (by omega)
      clear hn8e hn8f hmin
      have hself : ((8 : Int) != (8 : Int)) = false := by simp
      go_enter Try.func10, Try.ntmps10
      go_wp2_with (first | (at_builtin; refine wpList_append_run _ rfl (.tmp 10) (.tmp 11) 67 67 rfl _ _ rfl rfl _ w1 HRUN.out ?_) | fail)
      refine HOF.out.mono ?_
      rintro e w2 ⟨a2, c2, he, hn2⟩
      rw [HN8.out] at he
      subst he
      have HB2 := Lib.hid (HNEW.out.bel.trans (hn2.bel.mono HNEW.out.bel.size))
      have HR2 := Lib.hid hn2.row
      have HAP := Lib.hid (show ∀ x y, a1 = some x → a2 = some y → y.block ≠ x.block from fun x y hx hy e => by
            have h1 := hn2.2.1 y hy
            subst hx
            have := (HNEW.out.1.lt x.block (by simp [Value.ownBlock])).2
            omega)
      have HO1 := Lib.hid (OwnRec.touch (NewRec.own HNEW.out) (touch_of_below (S := fun _ => False) hn2.bel) (fun _ _ => id))
      have HAW := Lib.hid (awake9_any w2)
      clear hn2 HNEW HOF HRUN
      go_wp2_with fail
      refine HAW.out.mono ?_
      rintro e w3 ⟨rfl, hb3⟩
      have HB3 := Lib.hid (HB2.out.trans (hb3.mono HB2.out.size))
      have HR3 := Lib.hid (HR2.out.below hb3)
      have HO3 := Lib.hid (HO1.out.touch (touch_of_below (S := fun _ => False) hb3) (fun _ _ => id))
      clear hb3 HAW HB2 HR2 HO1
      go_wp2
      go_loopw [27] (fun i wr => ∃ j : Nat, j ≤ 8 ∧ i = .int .i64 j ∧ Hid (Below w.heap.size w wr ∧ OrdRow wr a2 (l.take 8) ∧ OwnRec 61 4 w.heap.size a1 c1 (ordsI (bumpO l j)) wr)) (fun i _ => 8 - (intOf i).toNat)
      case atStart => exact ⟨0, by omega, rfl, Lib.hid ⟨HB3.out, HR3.out, by have := HO3.out; simpa [bumpO] using this⟩⟩
      case round =>
        obtain ⟨j, hj, rfl, HM⟩ := hrel
        by_cases hlt : j < 8
        · have hjl : j < l.length := by have := HN8L.out; omega
          have hbl : j < (bumpO l j).length := by rw [bumpO_len l j (by omega)]; exact hjl
          obtain ⟨g, rfl⟩ := own_someR HM.out.2.2.1 (by rw [ordsI_len]; omega)
          obtain ⟨g2, o2, rfl, hg2, e0, e1, e2, e3⟩ := HM.out.2.1.at (i := j) (by rw [HN8.out]; exact hlt)
          have HMM : Hid (OfMem w l g c1 (some ⟨g2, o2, none⟩) j wr) := Lib.hid ⟨HM.out.2.2, HM.out.2.1, fun x hx => (by cases hx; exact HAP.out _ _ rfl rfl), HM.out.1⟩
          obtain ⟨d0, d1, d2, d3⟩ := HMM.out.at1 hbl
          have hfz := HM.out.2.2.1.frozenAt (j * 4)
          rw [bumpO_at l j hjl hbl] at d0 d1 d2 d3
          rw [show (l.take 8)[j]'(by rw [HN8.out]; exact hlt) = l[j] from List.getElem_take] at e0 e1 e2 e3
          have HST := Lib.hid (fun q => (HMM.out.drewN q).step hjl)
          have HAT : Hid (∀ h : j < (bumpO l (j + 1)).length, (bumpO l (j + 1))[j] = kindUp l[j]) := Lib.hid (fun h => by
            have h1 := bumpO_succ l j hjl
            have h2 : (bumpO l (j + 1))[j]? = some (kindUp l[j]) := by rw [← h1, List.getElem?_set_self hbl]
            rw [List.getElem?_eq_getElem h] at h2
            exact Option.some.inj h2)
          have hgne : g ≠ g2 := fun e => HMM.out.apart _ rfl e.symm
          have hkb : (l[j].kind == wrap64 (l[j].kind + 1)) = false := by
            have := wrap_neO _ (HOK.out _ (List.getElem_mem hjl)).1
            simp; omega
          generalize hx : l[j] = x at d0 d1 d2 d3 e0 e1 e2 e3 HST HAT hkb
          have HX := Lib.hid hx
          clear hx HM HMM
          obtain ⟨x0, x1, x2, x3⟩ := x
          simp only at d0 d1 d2 d3 e0 e1 e2 e3 HST hkb
          have hj0 : (0 : Int) ≤ (j : Int) := by omega
          have hj1 : (j : Int) < (8 : Int) := by omega
          have hj2 : (j : Int) < ((k : Nat) : Int) := by omega
          go_upto_region 10 with (fail)
          go_quiet (fail)
          go_wp2
          have HS1 := Lib.hid (HST.out nq)
          clear HST d0 d1 d2 d3 e0 e1 e2 e3 hfz
          generalize (wr.drewN nq).setCell ⟨g, j * 4, none⟩ (.int .i64 (wrap64 (x0 + 1))) = W at HS1
          have hbl2 : j < (bumpO l (j + 1)).length := by rw [bumpO_len l (j + 1) (by omega)]; exact hjl
          obtain ⟨d0, d1, d2, d3⟩ := HS1.out.at1 hbl2
          rw [HAT.out hbl2] at d0 d1 d2 d3
          obtain ⟨g3, o3, he3, hg3, e0, e1, e2, e3⟩ := HS1.out.row2.at (i := j) (by rw [HN8.out]; exact hlt)
          cases he3
          rw [show (l.take 8)[j]'(by rw [HN8.out]; exact hlt) = l[j] from List.getElem_take, HX.out] at e0 e1 e2 e3
          unfold kindUp at d0 d1 d2 d3
          simp only at d0 d1 d2 d3 e0 e1 e2 e3
          go_upto_region 13 with (fail)
          go_quiet (fail)
          go_wp2
          go_roundw
          case rel => exact ⟨j + 1, by omega, by go_num, Lib.hid (have h := HS1.out.drewN _; ⟨h.bel, h.row2, h.row1⟩)⟩
          case measure => simp [intOf]; omega
        · go_wp2
          go_ret
          exact ⟨rfl, HM.out.1⟩
  · obtain rfl : n8 = 8 := hn8e (by decide)
    clear hmin hn8e hn8f
    have hself : ((8 : Int) != (8 : Int)) = false := by simp
    go_enter Try.func10, Try.ntmps10
    go_wp2_with (first | (at_builtin; refine wpList_append_run _ rfl (.tmp 10) (.tmp 11) 67 67 rfl _ _ rfl rfl _ w1 HRUN.out ?_) | fail)
    refine HOF.out.mono ?_
    rintro e w2 ⟨a2, c2, he, hn2⟩
    rw [HN8.out] at he
    subst he
    have HB2 := Lib.hid (HNEW.out.bel.trans (hn2.bel.mono HNEW.out.bel.size))
    have HR2 := Lib.hid hn2.row
    have HAP := Lib.hid (show ∀ x y, a1 = some x → a2 = some y → y.block ≠ x.block from fun x y hx hy e => by
          have h1 := hn2.2.1 y hy
          subst hx
          have := (HNEW.out.1.lt x.block (by simp [Value.ownBlock])).2
          omega)
    have HO1 := Lib.hid (OwnRec.touch (NewRec.own HNEW.out) (touch_of_below (S := fun _ => False) hn2.bel) (fun _ _ => id))
    have HAW := Lib.hid (awake9_any w2)
    clear hn2 HNEW HOF HRUN
    go_wp2_with fail
    refine HAW.out.mono ?_
    rintro e w3 ⟨rfl, hb3⟩
    have HB3 := Lib.hid (HB2.out.trans (hb3.mono HB2.out.size))
    have HR3 := Lib.hid (HR2.out.below hb3)
    have HO3 := Lib.hid (HO1.out.touch (touch_of_below (S := fun _ => False) hb3) (fun _ _ => id))
    clear hb3 HAW HB2 HR2 HO1
    go_wp2
    go_loopw [27] (fun i wr => ∃ j : Nat, j ≤ 8 ∧ i = .int .i64 j ∧ Hid (Below w.heap.size w wr ∧ OrdRow wr a2 (l.take 8) ∧ OwnRec 61 4 w.heap.size a1 c1 (ordsI (bumpO l j)) wr)) (fun i _ => 8 - (intOf i).toNat)
    case atStart => exact ⟨0, by omega, rfl, Lib.hid ⟨HB3.out, HR3.out, by have := HO3.out; simpa [bumpO] using this⟩⟩
    case round =>
      obtain ⟨j, hj, rfl, HM⟩ := hrel
      by_cases hlt : j < 8
      · have hjl : j < l.length := by have := HN8L.out; omega
        have hbl : j < (bumpO l j).length := by rw [bumpO_len l j (by omega)]; exact hjl
        obtain ⟨g, rfl⟩ := own_someR HM.out.2.2.1 (by rw [ordsI_len]; omega)
        obtain ⟨g2, o2, rfl, hg2, e0, e1, e2, e3⟩ := HM.out.2.1.at (i := j) (by rw [HN8.out]; exact hlt)
        have HMM : Hid (OfMem w l g c1 (some ⟨g2, o2, none⟩) j wr) := Lib.hid ⟨HM.out.2.2, HM.out.2.1, fun x hx => (by cases hx; exact HAP.out _ _ rfl rfl), HM.out.1⟩
        obtain ⟨d0, d1, d2, d3⟩ := HMM.out.at1 hbl
        have hfz := HM.out.2.2.1.frozenAt (j * 4)
        rw [bumpO_at l j hjl hbl] at d0 d1 d2 d3
        rw [show (l.take 8)[j]'(by rw [HN8.out]; exact hlt) = l[j] from List.getElem_take] at e0 e1 e2 e3
        have HST := Lib.hid (fun q => (HMM.out.drewN q).step hjl)
        have HAT : Hid (∀ h : j < (bumpO l (j + 1)).length, (bumpO l (j + 1))[j] = kindUp l[j]) := Lib.hid (fun h => by
          have h1 := bumpO_succ l j hjl
          have h2 : (bumpO l (j + 1))[j]? = some (kindUp l[j]) := by rw [← h1, List.getElem?_set_self hbl]
          rw [List.getElem?_eq_getElem h] at h2
          exact Option.some.inj h2)
        have hgne : g ≠ g2 := fun e => HMM.out.apart _ rfl e.symm
        have hkb : (l[j].kind == wrap64 (l[j].kind + 1)) = false := by
          have := wrap_neO _ (HOK.out _ (List.getElem_mem hjl)).1
          simp; omega
        generalize hx : l[j] = x at d0 d1 d2 d3 e0 e1 e2 e3 HST HAT hkb
        have HX := Lib.hid hx
        clear hx HM HMM
        obtain ⟨x0, x1, x2, x3⟩ := x
        simp only at d0 d1 d2 d3 e0 e1 e2 e3 HST hkb
        have hj0 : (0 : Int) ≤ (j : Int) := by omega
        have hj1 : (j : Int) < (8 : Int) := by omega
        have hj2 : (j : Int) < (12 : Int) := by omega
        go_upto_region 10 with (fail)
        go_quiet (fail)
        go_wp2
        have HS1 := Lib.hid (HST.out nq)
        clear HST d0 d1 d2 d3 e0 e1 e2 e3 hfz
        generalize (wr.drewN nq).setCell ⟨g, j * 4, none⟩ (.int .i64 (wrap64 (x0 + 1))) = W at HS1
        have hbl2 : j < (bumpO l (j + 1)).length := by rw [bumpO_len l (j + 1) (by omega)]; exact hjl
        obtain ⟨d0, d1, d2, d3⟩ := HS1.out.at1 hbl2
        rw [HAT.out hbl2] at d0 d1 d2 d3
        obtain ⟨g3, o3, he3, hg3, e0, e1, e2, e3⟩ := HS1.out.row2.at (i := j) (by rw [HN8.out]; exact hlt)
        cases he3
        rw [show (l.take 8)[j]'(by rw [HN8.out]; exact hlt) = l[j] from List.getElem_take, HX.out] at e0 e1 e2 e3
        unfold kindUp at d0 d1 d2 d3
        simp only at d0 d1 d2 d3 e0 e1 e2 e3
        go_upto_region 13 with (fail)
        go_quiet (fail)
        go_wp2
        go_roundw
        case rel => exact ⟨j + 1, by omega, by go_num, Lib.hid (have h := HS1.out.drewN _; ⟨h.bel, h.row2, h.row1⟩)⟩
        case measure => simp [intOf]; omega
      · go_wp2
        go_ret
        exact ⟨rfl, HM.out.1⟩
end Go.Proofs.Ytapiaogmmoofkaa
