/-
  The walk of the law PaceMeter.
-/
import Derived.Test.YtlhcihjplolgiaaPace10
import Derived.Test.YtlhcihjplolgiaaWalkPStd
namespace Go.Proofs.Ytlhcihjplolgiaa
open Go.RowKit
set_option linter.unusedVariables false

def iC17 (x : Int) : List Value := [.int .i64 x]
theorem i17_wide (l : List Int) : VWide 1 (l.map iC17) := by
  intro x hx
  obtain ⟨p, -, rfl⟩ := List.mem_map.1 hx
  exact ⟨rfl, fun u hu => by simp only [iC17, List.mem_singleton] at hu; subst hu; rfl⟩
theorem int17Ty : VTy 3 1 (.int .i64 0) 8 := ⟨by kernel_rfl, rfl, by decide, by decide⟩
theorem own17_row {w : World} {B : Nat} {a : Option Addr} {c : Nat} {l : List Int} (h : OwnV 3 1 B a c (l.map iC17) w) : IntRow .i64 w a l := by
  intro h0
  obtain ⟨b, off, e, hc⟩ := h.row (i17_wide l) (by simpa using h0)
  refine ⟨b, off, e, fun i hi => ?_⟩
  have := hc i (by simpa using hi) 0 (by decide)
  rw [Nat.mul_one, Nat.add_zero] at this
  rw [this]; simp [iC17]
theorem own17_cap {w : World} {B : Nat} {a : Option Addr} {c : Nat} {l : List Int} (h : OwnV 3 1 B a c (l.map iC17) w) : l.length ≤ c := by
  rcases h.1.2 with ⟨-, h1⟩ | ⟨g, cap, cur, hv, -, -, hn, -⟩
  · have : l.length = 0 := by simpa using h1
    omega
  · simp only [Value.slice.injEq] at hv
    have : (l.map iC17).length = l.length := by simp
    omega
structure MMem (w W : World) (M P : Nat) (L told : List Int) (a : Option Addr) (c : Nat) (t d : Int) : Prop where
  m : MeterAt W M L
  own : OwnV 3 1 0 a c (told.map iC17) W
  p0 : W.cell? ⟨P, 0, none⟩ = some (.int .i64 t)
  p1 : W.cell? ⟨P, 1, none⟩ = some (.int .i64 d)
  fz : ∀ j, W.frozen? ⟨P, j, none⟩ = false
  bel : Below w.heap.size w W
  ne : ∀ x, a = some x → x.block ≠ M ∧ x.block ≠ P ∧ w.heap.size ≤ x.block
  neP : M ≠ P
  wM : w.heap.size ≤ M
  wP : w.heap.size ≤ P
theorem MMem.keep {w W W' : World} {M P : Nat} {L told : List Int} {a : Option Addr} {c : Nat} {t d : Int} (h : MMem w W M P L told a c t d) (hb : Below W.heap.size W W') : MMem w W' M P L told a c t d :=
  ⟨h.m.below hb, h.own.touch (touch_of_below (S := fun _ => False) hb) (fun _ _ => id), (hb.cell (block_lt_of_cell h.p0)).trans h.p0, (hb.cell (block_lt_of_cell h.p1)).trans h.p1, fun j => (hb.frozen (p := ⟨P, j, none⟩) (show P < W.heap.size from block_lt_of_cell h.p0)).trans (h.fz j), h.bel.trans (hb.mono h.bel.size), h.ne, h.neP, h.wM, h.wP⟩
theorem MMem.meter {w W W' : World} {M P : Nat} {L L' told : List Int} {a : Option Addr} {c : Nat} {t d : Int} (h : MMem w W M P L told a c t d) (ht : MeterTo W M L' W') : MMem w W' M P L' told a c t d := by
  have hPl : P < W.heap.size := block_lt_of_cell h.p0
  have hnP : ¬ P = M := fun e => h.neP e.symm
  exact ⟨ht.1, h.own.touch ht.2 (fun x hx => (h.ne x hx).1), (ht.2.cell (p := ⟨P, 0, none⟩) hPl hnP).trans h.p0, (ht.2.cell (p := ⟨P, 1, none⟩) hPl hnP).trans h.p1, fun j => (ht.2.frozen (p := ⟨P, j, none⟩) hPl hnP).trans (h.fz j), h.bel.trans (ht.2.below h.bel.size (fun k hk e => by have := h.wM; omega)), h.ne, h.neP, h.wM, h.wP⟩
theorem MMem.told {w W W' : World} {M P : Nat} {L told told' : List Int} {a a' : Option Addr} {c c' : Nat} {t d : Int} (h : MMem w W M P L told a c t d) (ho : OwnV 3 1 0 a' c' (told'.map iC17) W') (ht : Touch (fun b => a.map (·.block) = some b) W W') (hn : ∀ x, a' = some x → a.map (·.block) = some x.block ∨ W.heap.size ≤ x.block) : MMem w W' M P L told' a' c' t d := by
  have hPl : P < W.heap.size := block_lt_of_cell h.p0
  have hMl := h.m.lt
  have hnM : ¬ a.map (·.block) = some M := fun e => map_none (P := fun k => k ≠ M) (fun x hx => (h.ne x hx).1) _ e rfl
  have hnP : ¬ a.map (·.block) = some P := fun e => map_none (P := fun k => k ≠ P) (fun x hx => (h.ne x hx).2.1) _ e rfl
  refine ⟨h.m.touch ht hnM, ho, (ht.cell (p := ⟨P, 0, none⟩) hPl hnP).trans h.p0, (ht.cell (p := ⟨P, 1, none⟩) hPl hnP).trans h.p1, fun j => (ht.frozen (p := ⟨P, j, none⟩) hPl hnP).trans (h.fz j), h.bel.trans (ht.below h.bel.size (fun k hk e => ?_)), fun x hx => ?_, h.neP, h.wM, h.wP⟩
  · exact absurd hk (by have := map_none (P := fun k => w.heap.size ≤ k) (fun x hx => (h.ne x hx).2.2) _ e; omega)
  · have hs := h.bel.size
    rcases hn x hx with e | e
    · exact ⟨map_none (P := fun k => k ≠ M) (fun x hx => (h.ne x hx).1) _ e, map_none (P := fun k => k ≠ P) (fun x hx => (h.ne x hx).2.1) _ e, map_none (P := fun k => w.heap.size ≤ k) (fun x hx => (h.ne x hx).2.2) _ e⟩
    · exact ⟨by omega, by omega, by omega⟩
theorem MMem.setP {w W : World} {M P : Nat} {L told : List Int} {a : Option Addr} {c : Nat} {t d : Int} (h : MMem w W M P L told a c t d) (t' d' : Int) : MMem w ((W.setCell ⟨P, 0, none⟩ (.int .i64 t')).setCell ⟨P, 1, none⟩ (.int .i64 d')) M P L told a c t' d' := by
  have ht : Touch (fun b => b = P) W ((W.setCell ⟨P, 0, none⟩ (.int .i64 t')).setCell ⟨P, 1, none⟩ (.int .i64 d')) := ((Touch.refl (fun b => b = P) W).setCell (p := ⟨P, 0, none⟩) (fun _ => rfl) _).setCell (p := ⟨P, 1, none⟩) (fun _ => rfl) _
  refine ⟨h.m.touch ht h.neP, h.own.touch ht (fun x hx => (h.ne x hx).2.1), ?_, ?_, fun j => by simpa using h.fz j, h.bel.trans (ht.below h.bel.size (fun j hj e => by have := h.wP; omega)), h.ne, h.neP, h.wM, h.wP⟩
  · exact (World.cell?_setCell_other _ _ _ _ (by simp)).trans (World.cell?_setCell_same _ _ _ h.p0)
  · exact World.cell?_setCell_same _ _ _ ((World.cell?_setCell_other _ _ _ _ (by simp)).trans h.p1)
/-- What the great condition's calls keep. -/
structure CN (w W : World) (M P Q : Nat) (L told : List Int) (a : Option Addr) (c : Nat) (t d T D : Int) : Prop where
  mm : MMem w W M P L told a c t d
  q0 : W.cell? ⟨Q, 0, none⟩ = some (.int .i64 T)
  q1 : W.cell? ⟨Q, 1, none⟩ = some (.int .i64 D)
theorem CN.keep {w W W' : World} {M P Q : Nat} {L told : List Int} {a : Option Addr} {c : Nat} {t d T D : Int} (h : CN w W M P Q L told a c t d T D) (hb : Below W.heap.size W W') : CN w W' M P Q L told a c t d T D :=
  ⟨h.mm.keep hb, (hb.cell (block_lt_of_cell h.q0)).trans h.q0, (hb.cell (block_lt_of_cell h.q1)).trans h.q1⟩
theorem told_snoc (ns : List Int) (i : Nat) (hi : i < ns.length) : (ns.take (i + 1)).map (max · 0) = (ns.take i).map (max · 0) ++ [max ns[i] 0] := by
  rw [List.take_succ_eq_append_getElem hi, List.map_append]; rfl
theorem meter_told (ns : List Int) (i : Nat) : addsS [] (ns.take i) = last8 ((ns.take i).map (max · 0)) := addsS_nil _
set_option maxRecDepth 100000 in
set_option maxHeartbeats 4000000 in
theorem paceMeter_walk (w : World) (x y : Int) (a : Option Addr) (len cap : Nat) (ns : List Int) (h : NumArg .i64 w a len cap ns) : Calls Try.prog 10 #[.int .i64 x, .int .i64 y, .slice a len cap] w fun r w' => r = .returned (.bool true) ∧ Below w.heap.size w w' := by
  have HAW := Lib.hid (awake17_any w)
  obtain ⟨rfl, h1, h2, h3, h4, -, h5⟩ := h
  have HR := Lib.hid h4
  have HW := Lib.hid (show ∀ q ∈ ns, bound64 q from fun q hq => wf_i64 (h5 q hq))
  have HADA := Lib.hid (add_arg w a _ cap ns h4 HW.out rfl h1)
  unfold maxLen at h1 h3
  clear h4 h5
  go_enter Try.func10, Try.ntmps10
  go_wp2_with fail
  refine HAW.out.mono ?_
  rintro r w1 ⟨rfl, hb1⟩
  have HB1 := Lib.hid hb1
  clear hb1 HAW
  go_wp2_with fail
  have HM1 := Lib.hid ((meter_new w1 #[.int .i64 0, .int .i64 0, .int .i64 0, .int .i64 0, .int .i64 0, .int .i64 0, .int .i64 0, .int .i64 0, .int .i64 0] rfl).below (bel_alloc (Below.refl _ _) (.cells #[] 3)))
  have hsz : (w1.alloc (.cells #[.int .i64 0, .int .i64 0, .int .i64 0, .int .i64 0, .int .i64 0, .int .i64 0, .int .i64 0, .int .i64 0, .int .i64 0] 80)).heap.size = w1.heap.size + 1 := by simp
  have HO1 := Lib.hid (show OwnV 3 1 0 (some ⟨w1.heap.size + 1, 0, none⟩) 0 (([] : List Int).map iC17) ((w1.alloc (.cells #[.int .i64 0, .int .i64 0, .int .i64 0, .int .i64 0, .int .i64 0, .int .i64 0, .int .i64 0, .int .i64 0, .int .i64 0] 80)).alloc (.cells #[] 3)) from ⟨by
    rw [← hsz]
    exact World.ownsRow_lit (base := 0) (e := 3) (size := 1) _ #[] 0 (Nat.zero_le _) (by unfold maxLen; omega) rfl, fun _ _ => Nat.zero_le _⟩)
  have HB2 := Lib.hid (bel_alloc (bel_alloc HB1.out (.cells #[.int .i64 0, .int .i64 0, .int .i64 0, .int .i64 0, .int .i64 0, .int .i64 0, .int .i64 0, .int .i64 0, .int .i64 0] 80)) (.cells #[] 3))
  have hM : w.heap.size ≤ w1.heap.size := HB1.out.size
  have hsz2 : w1.heap.size + 2 ≤ ((w1.alloc (.cells #[.int .i64 0, .int .i64 0, .int .i64 0, .int .i64 0, .int .i64 0, .int .i64 0, .int .i64 0, .int .i64 0, .int .i64 0] 80)).alloc (.cells #[] 3)).heap.size := by simp
  clear HB1 hsz
  generalize (w1.alloc (.cells #[.int .i64 0, .int .i64 0, .int .i64 0, .int .i64 0, .int .i64 0, .int .i64 0, .int .i64 0, .int .i64 0, .int .i64 0] 80)).alloc (.cells #[] 3) = W2 at HM1 HO1 HB2 hsz2 ⊢
  generalize w1.heap.size = M at HM1 HO1 hM hsz2 ⊢
  refine (right17_any x y W2).mono ?_
  rintro r w6 ⟨t, d, rfl, hmay, hb6⟩
  have HMAY := Lib.hid hmay
  have hs6 := hb6.size
  have hMM : MMem w (w6.alloc (.cells #[.int .i64 t, .int .i64 d] 82)) M w6.heap.size [] [] (some ⟨M + 1, 0, none⟩) 0 t d := by
    have hA : Below w6.heap.size w6 (w6.alloc (.cells #[.int .i64 t, .int .i64 d] 82)) := bel_alloc (Below.refl _ _) _
    refine ⟨(HM1.out.below hb6).below hA, (HO1.out.touch (touch_of_below (S := fun _ => False) hb6) (fun _ _ => id)).touch (touch_of_below (S := fun _ => False) hA) (fun _ _ => id), new_cell rfl rfl, new_cell rfl rfl, fun j => frozen_new _ _ _ _, (HB2.out.trans (hb6.mono HB2.out.size)).trans (hA.mono (by omega)), fun q hq => by cases hq; simp; omega, by omega, hM, by omega⟩
  have HMM := Lib.hid hMM
  clear hMM hb6 hmay HM1 HO1 HB2 hsz2 hs6
  go_upto_region 7 with (fail)
  generalize w6.alloc (.cells #[.int .i64 t, .int .i64 d] 82) = W7 at HMM ⊢
  generalize w6.heap.size = P at HMM ⊢
  go_loopw [8, 10] (fun v8 v10 wr => ∃ (i : Nat) (a8 : Option Addr) (c8 : Nat), i ≤ ns.length ∧ i ≤ 60 ∧ v10 = .int .i64 (i : Int) ∧ v8 = .slice a8 i c8 ∧ Hid (∃ t d, mayP t d = true ∧ MMem w wr M P (addsS [] (ns.take i)) ((ns.take i).map (max · 0)) a8 c8 t d)) (fun _ v10 _ => 60 - (intOf v10).toNat)
  case atStart => exact ⟨0, _, 0, by omega, by omega, rfl, rfl, Lib.hid ⟨t, d, HMAY.out, HMM.out⟩⟩
  case round =>
    clear HMM HMAY
    obtain ⟨i, a8, c8, hi, hi60, rfl, rfl, HI⟩ := hrel
    have i0 : (0 : Int) ≤ (i : Int) := by omega
    have i60 : (i : Int) ≤ 60 := by omega
    by_cases hlt : i < ns.length ∧ i < 60
    · obtain ⟨g1, g2⟩ := hlt
      have i1 : (i : Int) < (ns.length : Int) := by omega
      have i2 : (i : Int) < 60 := by omega
      obtain ⟨t, d, hmay, hmm⟩ := HI.out
      have HMM := Lib.hid hmm
      have HMAY := Lib.hid hmay
      have HTS := Lib.hid (told_snoc ns i g1)
      have HLS := Lib.hid (show addsS [] (ns.take (i + 1)) = addsS (addsS [] (ns.take i)) [ns[i]] from adds_snoc [] ns i g1)
      have HLT := Lib.hid (meter_told ns (i + 1))
      have hlen : ((ns.take i).map (max · 0)).length = i := by simp; omega
      have HGT := Lib.hid (show ∀ q ∈ (ns.take (i + 1)).map (max · 0), good q from fun q hq => by
        obtain ⟨u, hu, rfl⟩ := List.mem_map.1 hq
        have := HW.out u (List.mem_of_mem_take hu)
        unfold bound64 at this; unfold good; omega)
      obtain ⟨ab, off, rfl, hcell⟩ := HR.out (show 0 < ns.length by omega)
      have HX := Lib.hid (fun W (hb : Below w.heap.size w W) => (hb.cell (p := ⟨ab, off + i, none⟩) (block_lt_of_cell (hcell i g1))).trans (hcell i g1))
      have hbx : bound64 ns[i] := HW.out _ (List.getElem_mem g1)
      clear hcell hmm hmay HI
      generalize hL1e : addsS [] (ns.take (i + 1)) = L1 at HLS HLT
      generalize hT1e : (ns.take (i + 1)).map (max · 0) = T1 at HTS HLT HGT
      have HEQ := Lib.hid (And.intro hL1e hT1e)
      clear hL1e hT1e
      generalize addsS [] (ns.take i) = L at HMM HLS
      generalize (ns.take i).map (max · 0) = T0 at HMM HTS hlen
      generalize ns[i] = x0 at HTS HLS HX hbx
      obtain ⟨bx0, bx1⟩ := hbx
      have hv := HX.out wr HMM.out.bel
      have hAr : Below wr.heap.size wr (wr.alloc (.cells #[.int .i64 x0] 3)) := bel_alloc (Below.refl _ _) _
      have HMA := Lib.hid (HMM.out.keep hAr)
      have HAD := Lib.hid (madd_any M L (some ⟨wr.heap.size, 0, none⟩) 1 [x0] _ HMA.out.m (fun _ => ⟨wr.heap.size, 0, rfl, fun j hj => by
        obtain rfl : j = 0 := by simpa using hj
        exact new_cell rfl rfl⟩) (fun _ q hq => by cases hq; have := HMM.out.m.lt; simp; omega) (fun q hq => by simp at hq; subst hq; exact ⟨bx0, bx1⟩) (by unfold maxLen; simp))
      rw [← HLS.out] at HAD
      clear HMM hAr HLS
      go_wp2_with fail
      refine HAD.out.mono ?_
      rintro r w3 ⟨rfl, hm3⟩
      have HM3 := Lib.hid (HMA.out.meter hm3)
      clear hm3 HAD HMA hv
      have hv := HX.out w3 HM3.out.bel
      obtain ⟨v, hv0, hv1, hvif⟩ : ∃ v : Int, good v ∧ max x0 0 = v ∧ (if x0 < 0 then (0 : Int) else x0) = v := ⟨max x0 0, by unfold good; omega, rfl, by split <;> omega⟩
      rw [hv1] at HTS
      obtain ⟨a', c', w4, hrun, ho, hto, hfr⟩ := own_one int17Ty Try.underlying54 HM3.out.own (iC17 v) (i17_wide [v]) (by simp; omega) i (by simpa using hlen) #[.int .i64 v] (by simp [iC17])
      have HRUN := Lib.hid hrun
      have HM4 := Lib.hid (HM3.out.told (told' := T1) (by rw [HTS.out]; simpa using ho) hto hfr)
      have hl1 : T1.length = i + 1 := by rw [HTS.out]; simp [hlen]
      have HL1 := Lib.hid hl1
      clear hrun ho hto hfr HM3 hlen HTS
      have hp0 := HM4.out.p0
      have hp1 := HM4.out.p1
      have hcap := own17_cap HM4.out.own
      have HNX := Lib.hid ((mnext_any M L1 t d w4 HM4.out.m).mono (R' := fun r w' => r = .returned (.agg #[.int .i64 (nextS L1 t d).1, .int .i64 (nextS L1 t d).2]) ∧ Below w4.heap.size w4 w') fun r w' h => h)
      have HRN := Lib.hid (fun W (hr : IntRow .i64 W a' T1) => (refNext17_any a' c' T1 W hr (by omega) hcap HGT.out t d HMAY.out).mono (R' := fun r w' => r = .returned (.agg #[.int .i64 (nextS L1 t d).1, .int .i64 (nextS L1 t d).2]) ∧ Below W.heap.size W w') fun r w' h => by rw [HLT.out]; exact h)
      have HW1 := Lib.hid (fun W (h : MeterAt W M L1) => (worst17_any M L1 W h).mono (R' := fun r w' => r = .returned (.int .i64 (worstS L1)) ∧ Below W.heap.size W w') fun r w' ⟨h1, m, h2⟩ => ⟨h1, by rw [h2]; exact bel17_drewN (Below.refl _ _) m⟩)
      have HRW := Lib.hid (fun W (hr : IntRow .i64 W a' T1) => (refWorst17_any a' c' T1 W hr (by omega) hcap).mono (R' := fun r w' => r = .returned (.int .i64 (worstS L1)) ∧ Below W.heap.size W w') fun r w' h => ⟨by rw [HLT.out]; exact h.1, by rw [← h.2]; exact Below.refl _ _⟩)
      have HME := Lib.hid (fun W (h : MeterAt W M L1) => (mean17_any M L1 W h).mono (R' := fun r w' => r = .returned (.int .i64 (meanS L1)) ∧ Below W.heap.size W w') fun r w' ⟨h1, m, h2⟩ => ⟨h1, by rw [h2]; exact bel17_drewN (Below.refl _ _) m⟩)
      have HRM := Lib.hid (fun W (hr : IntRow .i64 W a' T1) => (refMean17_any a' c' T1 W hr (by omega) hcap HGT.out).mono (R' := fun r w' => r = .returned (.int .i64 (meanS L1)) ∧ Below W.heap.size W w') fun r w' h => ⟨by rw [HLT.out]; exact h.1, by rw [← h.2]; exact Below.refl _ _⟩)
      have hll : ((L1.length : Nat) : Int) = min ((i : Int) + 1) 8 := by rw [HLT.out]; simp [last8]; omega
      have HLN := Lib.hid (fun W (h : MeterAt W M L1) => (meter_len M L1 W h).mono (R' := fun r w' => r = .returned (.int .i64 (min ((i : Int) + 1) 8)) ∧ Below W.heap.size W w') fun r w' h => ⟨by rw [h.1, hll], by rw [← h.2]; exact Below.refl _ _⟩)
      have hnm := next_may L1 t d HMAY.out
      have hsl : T1.length = i + 1 := HL1.out
      rw [hsl] at HRN HRW HRM
      have hmin : (if (8 : Int) < (i : Int) + 1 then (8 : Int) else (i : Int) + 1) = min ((i : Int) + 1) 8 := (min_if _ _).symm
      clear hll hsl hcap
      generalize hTe : (nextS L1 t d).1 = T at HNX HRN hnm
      generalize hDe : (nextS L1 t d).2 = D at HNX HRN hnm
      generalize worstS L1 = q1 at HW1 HRW
      generalize meanS L1 = q2 at HME HRM
      generalize hv5 : min ((i : Int) + 1) 8 = v5 at HLN hmin
      clear hTe hDe
      obtain ⟨hmay2, n1, n2, n3, n4, n5⟩ := hnm
      obtain ⟨⟨b1, b2⟩, b3, b4⟩ := mayP_iff.1 hmay2
      obtain ⟨⟨b5, b6⟩, b7, b8⟩ := mayP_iff.1 HMAY.out
      have HMAY2 := Lib.hid hmay2
      clear hmay2 HX HLT HGT
      go_wp2_with (first | (at_builtin; refine wpList_append_run _ rfl (.tmp 35) (.tmp 41) 54 54 rfl _ _ rfl rfl (.slice a' (i + 1) c') w4 HRUN.out ?_) | fail)
      refine HNX.out.mono ?_
      rintro r w5 ⟨rfl, hb5⟩
      have HM5 := Lib.hid (HM4.out.keep hb5)
      clear hb5 HM4 HNX HRUN hp0 hp1
      go_wp2_with fail
      have HCN := Lib.hid (show CN w (w5.alloc (.cells #[.int .i64 T, .int .i64 D] 82)) M P w5.heap.size L1 T1 a' c' t d T D from ⟨HM5.out.keep (bel_alloc (Below.refl _ _) _), new_cell rfl rfl, new_cell rfl rfl⟩)
      clear HM5
      generalize w5.alloc (.cells #[.int .i64 T, .int .i64 D] 82) = W8 at HCN ⊢
      generalize w5.heap.size = Q at HCN ⊢
      have hwr : IntKind.i64.wrap ((i : Int) + 1) = (i : Int) + 1 := by rw [IntKind.wrap_i64]; omega
      refine wp_region_cls (C := fun W => CN w W M P Q L1 T1 a' c' t d T D) (by kernel_rfl) (by kernel_rfl) (HCN.out.keep (Below.refl _ _).drew) ?_
      clear HCN
      repeat
        (refine wpQuiet_step (fun K hK => ?_)
         go_simp
         first
           | (refine hK _ ?_; clear hK K)
           | (apply Exists.intro
              refine ⟨fun W hW => ?_, hK _ ?_⟩
              (first
                | (go_at_call 46; exact (HRN.out W (own17_row hW.mm.own)).mono fun r W' h => ⟨h.1, hW.keep h.2⟩)
                | (go_at_call 47; exact (HW1.out W hW.mm.m).mono fun r W' h => ⟨h.1, hW.keep h.2⟩)
                | (go_at_call 48; exact (HRW.out W (own17_row hW.mm.own)).mono fun r W' h => ⟨h.1, hW.keep h.2⟩)
                | (go_at_call 49; exact (HME.out W hW.mm.m).mono fun r W' h => ⟨h.1, hW.keep h.2⟩)
                | (go_at_call 50; exact (HRM.out W (own17_row hW.mm.own)).mono fun r W' h => ⟨h.1, hW.keep h.2⟩)
                | (go_at_call 51; exact (HLN.out W hW.mm.m).mono fun r W' h => ⟨h.1, hW.keep h.2⟩)
                | (have y0 := hW.mm.p0; have y1 := hW.mm.p1; have y2 := hW.q0; have y3 := hW.q1; clear hW; go_simp; first | exact ⟨rfl, rfl⟩ | exact rfl | trivial))
              clear hK K))
      refine wpQuiet_nil ?_
      intro W9 hW9
      have HC9 := Lib.hid hW9
      clear hW9 HRN HW1 HRW HME HRM HLN
      have y2 := HC9.out.q0
      have y3 := HC9.out.q1
      go_wp2_with fail
      refine (pcheck17_any T D W9).mono ?_
      rintro r W10 ⟨hr10, hw10⟩
      rw [HMAY2.out, if_pos rfl] at hr10
      subst hr10
      have HC10 := Lib.hid (HC9.out.keep (show Below W9.heap.size W9 W10 by rw [hw10]; exact bel_alloc (Below.refl _ _) _))
      clear hw10 HC9 y2 y3
      have hTD : ((T != t) = false) ∨ ((T != t) = true ∧ (D != d) = false) := by
        by_cases e : T = t
        · left; simp [e]
        · right; refine ⟨by simp [e], ?_⟩
          rcases n5 with h | h
          · exact absurd h e
          · simp [h]
      clear n5
      have HMAY3 := HMAY2
      clear HMAY2 HMAY
      obtain ⟨⟨-, -, y0, y1, fz, -, -, -, -, -⟩, y2, y3⟩ := HC10.out
      rcases hTD with e1 | ⟨e1, e2⟩
      all_goals
        go_wp2
        go_roundw
        case rel => exact ⟨i + 1, a', c', by omega, by omega, by go_num, rfl, Lib.hid ⟨T, D, HMAY3.out, by rw [HEQ.out.1, HEQ.out.2]; exact HC10.out.mm.setP T D⟩⟩
        case measure => simp [intOf] <;> omega
    · obtain ⟨t, d, hmay, hmm⟩ := HI.out
      have HMM := Lib.hid hmm
      clear hmm hmay HI
      by_cases hl60 : 60 < ns.length
      · have e1 : (60 : Int) < (ns.length : Int) := by omega
        obtain rfl : i = 60 := by omega
        have e2 : ((60 : Nat) : Int) < (ns.length : Int) := by omega
        clear hlt
        go_wp2_with fail
        have hM2 := HMM.out.bel.size
        have HMN := Lib.hid (meter_new wr #[.int .i64 0, .int .i64 0, .int .i64 0, .int .i64 0, .int .i64 0, .int .i64 0, .int .i64 0, .int .i64 0, .int .i64 0] rfl)
        have HB := Lib.hid (bel_alloc HMM.out.bel (.cells #[.int .i64 0, .int .i64 0, .int .i64 0, .int .i64 0, .int .i64 0, .int .i64 0, .int .i64 0, .int .i64 0, .int .i64 0] 80))
        generalize wr.alloc (.cells #[.int .i64 0, .int .i64 0, .int .i64 0, .int .i64 0, .int .i64 0, .int .i64 0, .int .i64 0, .int .i64 0, .int .i64 0] 80) = W8 at HMN HB ⊢
        generalize wr.heap.size = M2 at HMN hM2 ⊢
        refine (HADA.out M2 [] W8 HMN.out hM2 HB.out).mono ?_
        rintro r W9 ⟨rfl, hm9⟩
        have HB9 := Lib.hid (HB.out.trans (hm9.2.below HB.out.size (fun k hk e => by omega)))
        clear hm9
        go_wp2
        go_ret
        exact ⟨rfl, HB9.out⟩
      · obtain rfl : i = ns.length := by omega
        have e1 : (ns.length : Int) ≤ 60 := by omega
        have e2 : (ns.length : Int) ≤ (ns.length : Int) := by omega
        rw [List.take_length] at HMM
        clear hlt hl60
        go_wp2_with fail
        have hM2 := HMM.out.bel.size
        have hMlt := HMM.out.m.lt
        have HMN := Lib.hid (meter_new wr #[.int .i64 0, .int .i64 0, .int .i64 0, .int .i64 0, .int .i64 0, .int .i64 0, .int .i64 0, .int .i64 0, .int .i64 0] rfl)
        have HB := Lib.hid (bel_alloc HMM.out.bel (.cells #[.int .i64 0, .int .i64 0, .int .i64 0, .int .i64 0, .int .i64 0, .int .i64 0, .int .i64 0, .int .i64 0, .int .i64 0] 80))
        have HM8 := Lib.hid (HMM.out.m.below (bel_alloc (Below.refl _ _) (.cells #[.int .i64 0, .int .i64 0, .int .i64 0, .int .i64 0, .int .i64 0, .int .i64 0, .int .i64 0, .int .i64 0, .int .i64 0] 80)))
        generalize wr.alloc (.cells #[.int .i64 0, .int .i64 0, .int .i64 0, .int .i64 0, .int .i64 0, .int .i64 0, .int .i64 0, .int .i64 0, .int .i64 0] 80) = W8 at HMN HB HM8 ⊢
        generalize wr.heap.size = M2 at HMN hM2 hMlt ⊢
        refine (HADA.out M2 [] W8 HMN.out hM2 HB.out).mono ?_
        rintro r W9 ⟨rfl, hm9⟩
        have HB9 := Lib.hid (HB.out.trans (hm9.2.below HB.out.size (fun k hk e => by omega)))
        have HN9 := Lib.hid hm9.1
        have HM9 := Lib.hid (HM8.out.touch hm9.2 (by omega))
        clear hm9 HB HM8 HMN
        generalize addsS [] ns = L at HN9 HM9
        have HW1 := Lib.hid (fun W B (h : MeterAt W B L) => (worst17_any B L W h).mono (R' := fun r w' => r = .returned (.int .i64 (worstS L)) ∧ Below W.heap.size W w') fun r w' ⟨h1, m, h2⟩ => ⟨h1, by rw [h2]; exact bel17_drewN (Below.refl _ _) m⟩)
        generalize worstS L = q1 at HW1
        go_wp2_with fail
        refine (HW1.out _ _ HN9.out).mono ?_
        rintro r W10 ⟨rfl, hb10⟩
        have HN10 := Lib.hid (HN9.out.below hb10)
        have HM10 := Lib.hid (HM9.out.below hb10)
        have HB10 := Lib.hid (HB9.out.trans (hb10.mono HB9.out.size))
        clear hb10 HN9 HM9 HB9
        go_wp2_with fail
        refine (HW1.out _ _ HM10.out).mono ?_
        rintro r W11 ⟨rfl, hb11⟩
        have HN11 := Lib.hid (HN10.out.below hb11)
        have HM11 := Lib.hid (HM10.out.below hb11)
        have HB11 := Lib.hid (HB10.out.trans (hb11.mono HB10.out.size))
        clear hb11 HN10 HM10 HB10
        go_wp2_with fail
        refine (meter_len _ _ _ HN11.out).mono ?_
        rintro r W12 ⟨rfl, rfl⟩
        go_wp2_with fail
        refine (meter_len _ _ _ HM11.out).mono ?_
        rintro r W12 ⟨rfl, rfl⟩
        go_wp2
        go_ret
        exact ⟨rfl, HB11.out⟩
end Go.Proofs.Ytlhcihjplolgiaa
