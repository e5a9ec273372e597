/-
  Layer 8: Set that changes something; All.
-/
import Derived.Test.YthggfjjiohdbmaaUnit6
namespace Go.Proofs.Ythggfjjiohdbmaa
open Go.RowKit
set_option linter.unusedVariables false

theorem set_kill {K : Nat → Prop} (b : Nat) (us : List Un) (g id x : Int) (n : Nat) (w : World) (h : TabQ K b us g w) (hn : FindIs us id n) (hlt : n < us.length) (he : us[n].id = id) (hx : x < 1) :
    Calls Try.prog 18 #[.pointer (some ⟨b, 0, none⟩), .int .i64 id, .int .i64 4, .int .i64 x] w fun r w' => r = .returned (.bool true) ∧ TabTo K b (us.eraseIdx n) g w w' := by
  have HF := Lib.hid (find_any b us g id n w h hn)
  rw [show foundQ us id n = true by rw [foundQ_lt hlt]; simpa using he] at HF
  have HK := Lib.hid (fun (W : World) (h : TabQ K b us g W) => kill_yes b us g id n W h hn hlt he)
  have HQ := Lib.hid h
  have dx : decide (x < 1) = true := by simpa using hx
  clear h hn he hx hlt
  go_enter Try.func18, Try.ntmps18
  go_wp2_with fail
  refine HF.out.mono ?_
  rintro r w1 ⟨rfl, hb1⟩
  have HB := Lib.hid hb1
  clear hb1 HF
  go_wp2_with fail
  refine (HK.out _ (HQ.out.below HB.out)).mono ?_
  rintro r w2 ⟨rfl, ht2⟩
  have HT := Lib.hid (show TabTo K b (us.eraseIdx n) g w w2 from ⟨ht2.1, (touch_of_below HB.out).trans ht2.2⟩)
  clear ht2
  go_wp2
  go_ret
  exact ⟨rfl, HT.out⟩
theorem TabAt.set {w : World} {b gb c : Nat} {us : List Un} {g : Int} (h : TabAt w b (some ⟨gb, 0, none⟩) c us g) (n : Nat) (hn : n < us.length) (f : Nat) (v : Int) (h2 : 2 ≤ f) (h4 : f ≤ 4) :
    TabAt (w.setCell ⟨gb, n * 6 + (f + 1), none⟩ (.int .i64 v)) b (some ⟨gb, 0, none⟩) c (us.set n (us[n].setF f v)) g := by
  have nbg : b ≠ gb := fun e => h.ap _ rfl e.symm
  have ht : Touch (fun k => k = gb) w (w.setCell ⟨gb, n * 6 + (f + 1), none⟩ (.int .i64 v)) := (Touch.refl (fun k => k = gb) w).setCell (p := ⟨gb, n * 6 + (f + 1), none⟩) (fun _ => rfl) _
  have hn' : n < (unsI us).length := by rw [unsI_len]; exact hn
  have h1 := (h.row.stored (n * 6 + (f + 1)) (.int .i64 v)).1
  rw [recCells_set (unsI_wide us) n hn' (f + 1) (by omega)] at h1
  have e : (unsI us).set n ((unsI us)[n].set (f + 1) v) = unsI (us.set n (us[n].setF f v)) := by
    have e0 : (unsI us)[n] = us[n].ints := by simp [unsI]
    rw [e0, setF_ints _ f v h2 h4]
    unfold unsI
    rw [List.map_set]
  rw [e] at h1
  exact ⟨by rw [List.length_set]; exact (ht.cell (p := ⟨b, 0, none⟩) h.lt nbg).trans h.c0, (ht.cell (p := ⟨b, 1, none⟩) h.lt nbg).trans h.c1, (ht.frozen (p := ⟨b, 0, none⟩) h.lt nbg).trans h.f0, (ht.frozen (p := ⟨b, 1, none⟩) h.lt nbg).trans h.f1, by rw [List.length_set]; exact h1, h.ap⟩
set_option maxRecDepth 100000 in
set_option maxHeartbeats 1000000 in
theorem set_yes {K : Nat → Prop} (b : Nat) (us : List Un) (g id x : Int) (f n : Nat) (w : World) (h : TabQ K b us g w) (hn : FindIs us id n) (hlt : n < us.length) (he : us[n].id = id) (h2 : 2 ≤ f) (h4 : f ≤ 4) (hm : mayN f x = true) :
    Calls Try.prog 18 #[.pointer (some ⟨b, 0, none⟩), .int .i64 id, .int .i64 f, .int .i64 x] w fun r w' => r = .returned (.bool true) ∧ TabTo K b (us.set n (us[n].setF f x)) g w w' := by
  have HF := Lib.hid (find_any b us g id n w h hn)
  rw [show foundQ us id n = true by rw [foundQ_lt hlt]; simpa using he] at HF
  have HOK := Lib.hid (tabOk_set h.ok n hlt f x h2 h4 hm)
  have h64 := h.ok.1
  have HM := Lib.hid (fun W => fieldMayBe_any f x W (by omega))
  rw [hm] at HM
  have hx4 : f = 4 → ¬ x < 1 := fun e => by subst e; simp [mayN] at hm; omega
  obtain ⟨⟨a, c, h1, nb, na⟩, hK, -⟩ := h
  obtain ⟨gb, rfl⟩ := own_someR h1.row (by omega)
  have HNB := Lib.hid nb
  have HNA := Lib.hid na
  have HK := Lib.hid hK
  have HT := Lib.hid h1
  have hL : us.length ≤ 64 := h64
  have hn0 : n < us.length := hlt
  clear nb na hK h1 hn he h64 hm
  have HE := Lib.hid (fun (W : World) (hb : Below w.heap.size w W) => (HT.out.below hb).set n hlt f x h2 h4)
  have HI := Lib.hid (fun (W : World) (hb : Below w.heap.size w W) => (HT.out.below hb).urow.at hlt)
  generalize us.set n (us[n].setF f x) = us2 at HOK HE ⊢
  have h3 : f = 2 ∨ f = 3 ∨ f = 4 := by omega
  rcases h3 with rfl | rfl | rfl
  · clear h2 h4
    clear hx4
    go_enter Try.func18, Try.ntmps18
    go_wp2_with fail
    refine HF.out.mono ?_
    rintro r w1 ⟨rfl, hb1⟩
    have HB := Lib.hid hb1
    have c0 := (HT.out.below hb1).c0
    have hbl := (HT.out.below hb1).lt
    obtain ⟨g', off, e', hg, e0, e1, e2, e3, e4, e5⟩ := HI.out w1 hb1
    cases e'
    simp only [Nat.zero_add] at e0 e1 e2 e3 e4 e5
    have hfz : w1.frozen? ⟨gb, n * 6 + 3, none⟩ = false := (HT.out.below hb1).row.frozenAt _
    have HFIN := Lib.hid (show TabTo K b us2 g w (w1.setCell ⟨gb, n * 6 + 3, none⟩ (.int .i64 x)) from by
      have tt : Touch (fun k => ¬ K k) w (w1.setCell ⟨gb, n * 6 + 3, none⟩ (.int .i64 x)) := (touch_of_below HB.out).trans ((Touch.refl _ w1).setCell (p := ⟨gb, n * 6 + 3, none⟩) (fun _ => HNA.out _ rfl) _)
      exact ⟨⟨⟨some ⟨gb, 0, none⟩, c, HE.out w1 HB.out, HNB.out, HNA.out⟩, fun k hk => Nat.lt_of_lt_of_le (HK.out k hk) tt.size, HOK.out⟩, tt⟩)
    clear hb1 HF HE HI HT
    go_wp2_with (go_at_call 37; (refine (HM.out _).mono ?_); rintro e w' ⟨rfl, rfl⟩)
    go_ret
    exact ⟨rfl, HFIN.out⟩
  · clear h2 h4
    clear hx4
    go_enter Try.func18, Try.ntmps18
    go_wp2_with fail
    refine HF.out.mono ?_
    rintro r w1 ⟨rfl, hb1⟩
    have HB := Lib.hid hb1
    have c0 := (HT.out.below hb1).c0
    have hbl := (HT.out.below hb1).lt
    obtain ⟨g', off, e', hg, e0, e1, e2, e3, e4, e5⟩ := HI.out w1 hb1
    cases e'
    simp only [Nat.zero_add] at e0 e1 e2 e3 e4 e5
    have hfz : w1.frozen? ⟨gb, n * 6 + 4, none⟩ = false := (HT.out.below hb1).row.frozenAt _
    have HFIN := Lib.hid (show TabTo K b us2 g w (w1.setCell ⟨gb, n * 6 + 4, none⟩ (.int .i64 x)) from by
      have tt : Touch (fun k => ¬ K k) w (w1.setCell ⟨gb, n * 6 + 4, none⟩ (.int .i64 x)) := (touch_of_below HB.out).trans ((Touch.refl _ w1).setCell (p := ⟨gb, n * 6 + 4, none⟩) (fun _ => HNA.out _ rfl) _)
      exact ⟨⟨⟨some ⟨gb, 0, none⟩, c, HE.out w1 HB.out, HNB.out, HNA.out⟩, fun k hk => Nat.lt_of_lt_of_le (HK.out k hk) tt.size, HOK.out⟩, tt⟩)
    clear hb1 HF HE HI HT
    go_wp2_with (go_at_call 37; (refine (HM.out _).mono ?_); rintro e w' ⟨rfl, rfl⟩)
    go_ret
    exact ⟨rfl, HFIN.out⟩
  · clear h2 h4
    have dx : decide (x < 1) = false := by simpa using hx4 rfl
    clear hx4
    go_enter Try.func18, Try.ntmps18
    go_wp2_with fail
    refine HF.out.mono ?_
    rintro r w1 ⟨rfl, hb1⟩
    have HB := Lib.hid hb1
    have c0 := (HT.out.below hb1).c0
    have hbl := (HT.out.below hb1).lt
    obtain ⟨g', off, e', hg, e0, e1, e2, e3, e4, e5⟩ := HI.out w1 hb1
    cases e'
    simp only [Nat.zero_add] at e0 e1 e2 e3 e4 e5
    have hfz : w1.frozen? ⟨gb, n * 6 + 5, none⟩ = false := (HT.out.below hb1).row.frozenAt _
    have HFIN := Lib.hid (show TabTo K b us2 g w (w1.setCell ⟨gb, n * 6 + 5, none⟩ (.int .i64 x)) from by
      have tt : Touch (fun k => ¬ K k) w (w1.setCell ⟨gb, n * 6 + 5, none⟩ (.int .i64 x)) := (touch_of_below HB.out).trans ((Touch.refl _ w1).setCell (p := ⟨gb, n * 6 + 5, none⟩) (fun _ => HNA.out _ rfl) _)
      exact ⟨⟨⟨some ⟨gb, 0, none⟩, c, HE.out w1 HB.out, HNB.out, HNA.out⟩, fun k hk => Nat.lt_of_lt_of_le (HK.out k hk) tt.size, HOK.out⟩, tt⟩)
    clear hb1 HF HE HI HT
    go_wp2_with (go_at_call 37; (refine (HM.out _).mono ?_); rintro e w' ⟨rfl, rfl⟩)
    go_ret
    exact ⟨rfl, HFIN.out⟩
end Go.Proofs.Ythggfjjiohdbmaa
