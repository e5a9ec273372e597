/-
  Layer 8: Kill, Set, All.
-/
import Derived.Test.YthggfjjiohdbmaaUnit5
namespace Go.Proofs.Ythggfjjiohdbmaa
open Go.RowKit
set_option linter.unusedVariables false

theorem tabOk_erase {us : List Un} {g : Int} (h : TabOk us g) (n : Nat) (hn : n < us.length) : TabOk (us.eraseIdx n) g := by
  obtain ⟨h1, h2, h3, h4, h5⟩ := h
  have hl : (us.eraseIdx n).length = us.length - 1 := by rw [List.length_eraseIdx, if_pos hn]
  refine ⟨by omega, fun i j hi hj hij => ?_, fun u hu => h3 u (List.mem_of_mem_eraseIdx hu), h4, h5⟩
  rw [List.getElem_eraseIdx, List.getElem_eraseIdx]
  split
  · split
    · exact h2 i j (by omega) (by omega) hij
    · exact h2 i (j + 1) (by omega) (by omega) (by omega)
  · split
    · omega
    · exact h2 (i + 1) (j + 1) (by omega) (by omega) (by omega)
theorem kill_no {K : Nat → Prop} (b : Nat) (us : List Un) (g id : Int) (n : Nat) (w : World) (h : TabQ K b us g w) (hn : FindIs us id n) (hf : foundQ us id n = false) :
    Calls Try.prog 16 #[.pointer (some ⟨b, 0, none⟩), .int .i64 id] w fun r w' => r = .returned (.bool false) ∧ Below w.heap.size w w' := by
  have HF := Lib.hid (find_any b us g id n w h hn)
  rw [hf] at HF
  clear hn h hf
  go_enter Try.func16, Try.ntmps16
  go_wp2_with fail
  refine HF.out.mono ?_
  rintro r w1 ⟨rfl, hb1⟩
  have HB := Lib.hid hb1
  clear hb1 HF
  go_wp2
  go_ret
  exact ⟨rfl, HB.out⟩
set_option maxRecDepth 100000 in
set_option maxHeartbeats 1000000 in
theorem kill_yes {K : Nat → Prop} (b : Nat) (us : List Un) (g id : Int) (n : Nat) (w : World) (h : TabQ K b us g w) (hn : FindIs us id n) (hlt : n < us.length) (he : us[n].id = id) :
    Calls Try.prog 16 #[.pointer (some ⟨b, 0, none⟩), .int .i64 id] w fun r w' => r = .returned (.bool true) ∧ TabTo K b (us.eraseIdx n) g w w' := by
  have HF := Lib.hid (find_any b us g id n w h hn)
  rw [show foundQ us id n = true by rw [foundQ_lt hlt]; simpa using he] at HF
  have HOK := Lib.hid (tabOk_erase h.ok n hlt)
  have h64 := h.ok.1
  obtain ⟨⟨a, c, h1, nb, na⟩, hK, -⟩ := h
  obtain ⟨gb, rfl⟩ := own_someR h1.row (by omega)
  have HNB := Lib.hid nb
  have HNA := Lib.hid na
  have HK := Lib.hid hK
  have HT := Lib.hid h1
  obtain ⟨m, hm⟩ : ∃ m, us.length = m + 1 := ⟨us.length - 1, by omega⟩
  have HLM := Lib.hid hm
  have hl2 : (us.eraseIdx n).length = m := by rw [List.length_eraseIdx, if_pos hlt, hm]; rfl
  have HL2 := Lib.hid hl2
  have hnm : n ≤ m := by omega
  have hm64 : m + 1 ≤ 64 := by omega
  clear nb na hK h1 hn he h64 hlt hm hl2
  go_enter Try.func16, Try.ntmps16
  go_wp2_with fail
  refine HF.out.mono ?_
  rintro r w1 ⟨rfl, hb1⟩
  have hT1 := HT.out.below hb1
  have c0 := hT1.c0
  rw [HLM.out] at c0
  have hbl := hT1.lt
  have hrow := hT1.row
  rw [HLM.out] at hrow
  have HD := Lib.hid (delete_any HLM.out hnm (by omega) hrow)
  have HT1 := Lib.hid hT1
  have HB1 := Lib.hid hb1
  clear hb1 hT1 HF HT hrow
  go_wp2_with fail
  refine HD.out.mono ?_
  rintro r w2 ⟨rfl, hrow2, ht2⟩
  have nbg : ¬ b = gb := fun e => HT1.out.ap _ rfl e.symm
  have k0 : w2.cell? ⟨b, 0, none⟩ = some (.slice (some ⟨gb, 0, none⟩) (m + 1) c) := (ht2.cell (p := ⟨b, 0, none⟩) hbl nbg).trans c0
  have k1 : w2.cell? ⟨b, 1, none⟩ = some (.int .i64 g) := (ht2.cell (p := ⟨b, 1, none⟩) hbl nbg).trans HT1.out.c1
  have z0 : w2.frozen? ⟨b, 0, none⟩ = false := (ht2.frozen (p := ⟨b, 0, none⟩) hbl nbg).trans HT1.out.f0
  have z1 : w2.frozen? ⟨b, 1, none⟩ = false := (ht2.frozen (p := ⟨b, 1, none⟩) hbl nbg).trans HT1.out.f1
  have hb2 : b < w2.heap.size := block_lt_of_cell k0
  have HFIN := Lib.hid (show TabTo K b (us.eraseIdx n) g w (w2.setCell ⟨b, 0, none⟩ (.slice (some ⟨gb, 0, none⟩) m c)) from by
    have tS : Touch (fun k => k = b) w2 (w2.setCell ⟨b, 0, none⟩ (.slice (some ⟨gb, 0, none⟩) m c)) := (Touch.refl (fun k => k = b) w2).setCell (p := ⟨b, 0, none⟩) (fun _ => rfl) _
    have tt : Touch (fun k => ¬ K k) w (w2.setCell ⟨b, 0, none⟩ (.slice (some ⟨gb, 0, none⟩) m c)) := ((touch_of_below HB1.out).trans (ht2.mono fun k _ e => by rw [e]; exact HNA.out _ rfl)).trans (tS.mono fun k _ e => by rw [e]; exact HNB.out)
    refine ⟨⟨⟨some ⟨gb, 0, none⟩, c, ⟨?_, ?_, by simpa using z0, by simpa using z1, ?_, HT1.out.ap⟩, HNB.out, HNA.out⟩, fun k hk => Nat.lt_of_lt_of_le (HK.out k hk) tt.size, HOK.out⟩, tt⟩
    · rw [World.cell?_setCell_same _ _ _ k0, HL2.out]
    · exact (World.cell?_setCell_other _ _ _ _ (by simp)).trans k1
    · rw [HL2.out]
      exact own_touchR hrow2 tS (fun k hk e => by simp [Value.ownBlock] at hk; exact nbg (by rw [← e, hk])))
  clear hrow2 ht2 HD HOK HT1
  go_wp2
  go_ret
  exact ⟨rfl, HFIN.out⟩
/-- A field of a unit is another one. -/
def Un.setF (u : Un) (f : Nat) (v : Int) : Un := if f = 2 then { u with x := v } else if f = 3 then { u with y := v } else { u with health := v }
theorem setF_ints (u : Un) (f : Nat) (v : Int) (h2 : 2 ≤ f) (h4 : f ≤ 4) : u.ints.set (f + 1) v = (u.setF f v).ints := by
  have : f = 2 ∨ f = 3 ∨ f = 4 := by omega
  rcases this with rfl | rfl | rfl <;> rfl
theorem setF_id (u : Un) (f : Nat) (v : Int) : (u.setF f v).id = u.id := by
  unfold Un.setF
  split
  · rfl
  · split <;> rfl
theorem setF_may (u : Un) (f : Nat) (v : Int) (h : UnMay u) (h2 : 2 ≤ f) (h4 : f ≤ 4) (hv : mayN f v = true) : UnMay (u.setF f v) := by
  obtain ⟨a, b, c, d, e⟩ := h
  have : f = 2 ∨ f = 3 ∨ f = 4 := by omega
  rcases this with rfl | rfl | rfl
  · exact ⟨a, b, hv, d, e⟩
  · exact ⟨a, b, c, hv, e⟩
  · exact ⟨a, b, c, d, hv⟩
theorem tabOk_set {us : List Un} {g : Int} (h : TabOk us g) (n : Nat) (hn : n < us.length) (f : Nat) (v : Int) (h2 : 2 ≤ f) (h4 : f ≤ 4) (hv : mayN f v = true) : TabOk (us.set n (us[n].setF f v)) g := by
  obtain ⟨q1, q2, q3, q4, q5⟩ := h
  have hid : ∀ i (hi : i < (us.set n (us[n].setF f v)).length), (us.set n (us[n].setF f v))[i].id = (us[i]'(by simpa using hi)).id := by
    intro i hi
    rw [List.getElem_set]
    split
    · rename_i e; subst e; exact setF_id _ _ _
    · rfl
  refine ⟨by simpa using q1, fun i j hi hj hij => ?_, fun u hu => ?_, q4, q5⟩
  · rw [hid i hi, hid j hj]
    exact q2 i j _ _ hij
  · rcases List.mem_or_eq_of_mem_set hu with h | h
    · exact q3 u h
    · subst h
      have := q3 us[n] (List.getElem_mem hn)
      rw [setF_id]
      exact ⟨this.1, this.2.1, setF_may _ _ _ this.2.2 h2 h4 hv⟩
theorem findIs_lt {us : List Un} {id : Int} {n : Nat} (h : foundQ us id n = true) : ∃ hlt : n < us.length, us[n].id = id := by
  by_cases hlt : n < us.length
  · rw [foundQ_lt hlt] at h
    exact ⟨hlt, by simpa using h⟩
  · rw [foundQ_ge (by omega)] at h
    simp at h
set_option maxRecDepth 100000 in
set_option maxHeartbeats 1000000 in
theorem set_no {K : Nat → Prop} (b : Nat) (us : List Un) (g id f x : Int) (n : Nat) (w : World) (h : TabQ K b us g w) (hn : FindIs us id n) (hf : foundQ us id n = false ∨ f < 2 ∨ 4 < f ∨ (¬ (f = 4 ∧ x < 1) ∧ mayN f.toNat x = false)) :
    Calls Try.prog 18 #[.pointer (some ⟨b, 0, none⟩), .int .i64 id, .int .i64 f, .int .i64 x] w fun r w' => r = .returned (.bool false) ∧ Below w.heap.size w w' := by
  have HF := Lib.hid (find_any b us g id n w h hn)
  clear hn h
  cases hq : foundQ us id n
  · rw [hq] at HF
    clear hf hq
    go_enter Try.func18, Try.ntmps18
    go_wp2_with fail
    refine HF.out.mono ?_
    rintro r w1 ⟨rfl, hb1⟩
    have HB := Lib.hid hb1
    clear hb1 HF
    go_wp2
    go_ret
    exact ⟨rfl, HB.out⟩
  · rw [hq] at HF hf
    clear hq
    simp only [Bool.true_eq_false, false_or] at hf
    by_cases hf2 : f < 2
    · have d2 : decide (f < 2) = true := by simpa using hf2
      clear hf hf2
      go_enter Try.func18, Try.ntmps18
      go_wp2_with fail
      refine HF.out.mono ?_
      rintro r w1 ⟨rfl, hb1⟩
      have HB := Lib.hid hb1
      clear hb1 HF
      go_wp2
      go_ret
      exact ⟨rfl, HB.out⟩
    · have d2 : decide (f < 2) = false := by simpa using hf2
      by_cases hf4 : 4 < f
      · have d4 : decide (4 < f) = true := by simpa using hf4
        clear hf hf2 hf4
        go_enter Try.func18, Try.ntmps18
        go_wp2_with fail
        refine HF.out.mono ?_
        rintro r w1 ⟨rfl, hb1⟩
        have HB := Lib.hid hb1
        clear hb1 HF
        go_wp2
        go_ret
        exact ⟨rfl, HB.out⟩
      · have d4 : decide (4 < f) = false := by simpa using hf4
        have hf' : ¬ (f = 4 ∧ x < 1) ∧ mayN f.toNat x = false := by rcases hf with h | h | h; exact absurd h hf2; exact absurd h hf4; exact h
        have HM := Lib.hid (fun W => fieldMayBe_any f.toNat x W (by omega))
        rw [hf'.2] at HM
        obtain ⟨fn, rfl⟩ := Int.eq_ofNat_of_zero_le (show 0 ≤ f by omega)
        simp only [Int.toNat_natCast] at HM
        by_cases h4 : fn = 4
        · subst h4
          have hx : ¬ x < 1 := fun h => hf'.1 ⟨rfl, h⟩
          have dx : decide (x < 1) = false := by simpa using hx
          clear hf hf' hf2 hf4 d2 d4 hx
          go_enter Try.func18, Try.ntmps18
          go_wp2_with fail
          refine HF.out.mono ?_
          rintro r w1 ⟨rfl, hb1⟩
          have HB := Lib.hid hb1
          clear hb1 HF
          go_wp2_with (go_at_call 37; (refine (HM.out _).mono ?_); rintro e w' ⟨rfl, rfl⟩)
          go_ret
          exact ⟨rfl, HB.out⟩
        · have h4b : ((fn : Int) == 4) = false := by simp; omega
          clear hf hf' h4
          go_enter Try.func18, Try.ntmps18
          go_wp2_with fail
          refine HF.out.mono ?_
          rintro r w1 ⟨rfl, hb1⟩
          have HB := Lib.hid hb1
          clear hb1 HF
          go_wp2_with (go_at_call 37; (refine (HM.out _).mono ?_); rintro e w' ⟨rfl, rfl⟩)
          go_ret
          exact ⟨rfl, HB.out⟩
end Go.Proofs.Ythggfjjiohdbmaa
