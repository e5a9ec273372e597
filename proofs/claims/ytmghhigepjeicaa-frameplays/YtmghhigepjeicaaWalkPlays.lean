/-
  The walk of FramePlays.
-/
import Derived.Test.YtmghhigepjeicaaPlayTake
import Derived.Test.YtmghhigepjeicaaWalkApart
import Derived.Deep.DeepCutAuto
import Derived.Deep.CutBlock
namespace Go.Proofs.Ytmghhigepjeicaa
open Go.RowKit
set_option linter.unusedVariables false

/-- The law's memory: the call's frame, the document's values and locals. -/
def MainAt (W0 w : World) (b s c : Nat) (fn : Int) (l v : List Int) (a : Option Addr) (ca : Nat) (av : Option Addr) : Prop :=
  PlayAt W0 w b s c fn l v a ca ∧ ArgRow w av 0 v ∧ (∀ y, av = some y → y.block ≠ b ∧ y.block ≠ s ∧ y.block ≠ c ∧ W0.heap.size ≤ y.block ∧ y.block < w.heap.size ∧ ∀ x, a = some x → x.block ≠ y.block)
theorem MainAt.keep {W0 w w' : World} {b s c : Nat} {fn : Int} {l v : List Int} {a av : Option Addr} {ca : Nat} (h : MainAt W0 w b s c fn l v a ca av) (hb : Below w.heap.size w w') : MainAt W0 w' b s c fn l v a ca av :=
  ⟨h.1.keep hb, h.2.1.touch (touch_of_below (S := fun _ => False) hb) (fun _ _ => id), fun y hy => by have := h.2.2 y hy; exact ⟨this.1, this.2.1, this.2.2.1, this.2.2.2.1, Nat.lt_of_lt_of_le this.2.2.2.2.1 hb.size, this.2.2.2.2.2⟩⟩
theorem MainAt.play {W0 w w' : World} {b s c : Nat} {fn : Int} {l l' v : List Int} {a a' av : Option Addr} {ca ca' : Nat} (h : MainAt W0 w b s c fn l v a ca av) (hp : PlayAt W0 w' b s c fn l' v a' ca') (ht : Touch (fun k => k = s) w w') (ha : ∀ x, a' = some x → (∃ y, a = some y ∧ y.block = x.block) ∨ w.heap.size ≤ x.block) : MainAt W0 w' b s c fn l' v a' ca' av := by
  refine ⟨hp, h.2.1.touch ht (fun y hy => (h.2.2 y hy).2.1), fun y hy => ?_⟩
  have hh := h.2.2 y hy
  refine ⟨hh.1, hh.2.1, hh.2.2.1, hh.2.2.2.1, Nat.lt_of_lt_of_le hh.2.2.2.2.1 ht.size, fun x hx => ?_⟩
  rcases ha x hx with ⟨z, hz, e⟩ | hz
  · rw [← e]; exact hh.2.2.2.2.2 z hz
  · omega
theorem arg_set {w : World} {R k : Nat} {ns : List Int} (x : Int) (hk : k < ns.length) (h : ArgRow w (some ⟨R, 0, none⟩) 0 ns) : ArgRow (w.setCell ⟨R, k, none⟩ (.int .i64 x)) (some ⟨R, 0, none⟩) 0 (ns.set k x) := by
  intro h0
  obtain ⟨R', e, h1, h2, h3⟩ := h (by omega)
  cases e
  refine ⟨R, rfl, fun j hj _ => ?_, fun j => by simpa using h2 j, by simpa using h3⟩
  have hj' : j < ns.length := by simpa using hj
  by_cases e : k = j
  · subst e
    rw [World.cell?_setCell_same _ _ _ (h1 k hj' (Nat.zero_le _))]; simp
  · rw [World.cell?_setCell_other _ _ _ _ (by simp), h1 j hj' (Nat.zero_le _), List.getElem_set_ne e]
/-- A local was set on both. -/
theorem MainAt.local {W0 w w1 : World} {b s c R n : Nat} {fn : Int} {l v : List Int} {a : Option Addr} {ca : Nat} {x : Int} (h : MainAt W0 w b s c fn l v a ca (some ⟨R, 0, none⟩)) (hn : n < v.length) (ht : FrameTo w b s c fn l (v.set n x) w1) :
    MainAt W0 (w1.setCell ⟨R, n, none⟩ (.int .i64 x)) b s c fn l (v.set n x) a ca (some ⟨R, 0, none⟩) := by
  obtain ⟨⟨hF, hL, ha, hB, hb⟩, hA, hy⟩ := h
  have hR := hy ⟨R, 0, none⟩ rfl
  simp only at hR
  have t2 : Touch (fun k => k = R) w1 (w1.setCell ⟨R, n, none⟩ (.int .i64 x)) := (Touch.refl (fun k => k = R) w1).setCell (p := ⟨R, n, none⟩) (fun _ => rfl) _
  have hA1 : ArgRow w1 (some ⟨R, 0, none⟩) 0 v := hA.touch ht.2 (fun y e => by cases e; rintro (e | e); exact hR.2.1 e; exact hR.2.2.1 e)
  have hB1 : Below W0.heap.size W0 w1 := hB.trans (ht.2.below hB.size (by rintro j hj (rfl | rfl) <;> omega))
  refine ⟨⟨ht.1.touch t2 (fun e => hR.1 e.symm) (fun e => hR.2.1 e.symm) (fun e => hR.2.2.1 e.symm), (hL.touch ht.2 (fun y e => by rintro (h | h); exact (ha y e).2.1 h; exact (ha y e).2.2 h)).touch t2 (fun y e => hR.2.2.2.2.2 y e), ha, hB1.setCell hR.2.2.2.1 _, hb⟩, arg_set x hn hA1, fun y e => ?_⟩
  cases e
  exact ⟨hR.1, hR.2.1, hR.2.2.1, hR.2.2.2.1, by have := ht.2.size; simp; omega, hR.2.2.2.2.2⟩
set_option maxRecDepth 100000 in
set_option maxHeartbeats 16000000 in
theorem framePlays_walk (w : World) (fn x1 : Int) (a : Option Addr) (len cap : Nat) (ns : List Int) (h : NumArg .i64 w a len cap ns) (am : Option Addr) (lm cm : Nat) (m : List ActV) (hm : ActsArg w am lm cm m) :
    Calls Try.prog 7 #[.int .i64 fn, .int .i64 x1, .slice a len cap, .slice am lm cm] w fun e w' => e = .returned (.bool true) ∧ Below w.heap.size w w' := by
  obtain ⟨rfl, hl, hlc, hcm, hr, hn0, hwf⟩ := h
  obtain ⟨rfl, hl2, hlc2, hr2, hok2⟩ := hm
  unfold maxLen at hl hcm hl2
  have HR := Lib.hid hr
  have HN0 := Lib.hid hn0
  have HR2 := Lib.hid hr2
  have HOK := Lib.hid hok2
  clear hr hwf hn0 hr2 hok2
  go_enter Try.func7, Try.ntmps7
  go_wp2_with fail
  refine (awake6_any w).mono ?_
  rintro r w1 ⟨rfl, hb1⟩
  have HB1 := Lib.hid hb1
  clear hb1
  go_upto_if 23 with (fail)
  go_cut [2] (fun s2 wx => ∃ (k : List Int) (N : Nat), s2 = .slice a N cap ∧ Hid (N = k.length ∧ k.length ≤ 20 ∧ IntRow .i64 w a k) ∧ wx = w1)
  case first =>
    by_cases h20 : ns.length ≤ 20
    · go_wp2
      go_meet
      exact ⟨ns, ns.length, rfl, Lib.hid ⟨rfl, h20, HR.out⟩, rfl⟩
    · obtain ⟨ab, ao, rfl, -⟩ := HR.out.lt (by omega)
      have h20' : (20 : Int) < (ns.length : Int) := by omega
      go_wp2
      go_meet
      exact ⟨ns.take 20, 20, rfl, Lib.hid ⟨by simp; omega, by simp; omega, HR.out.take 20⟩, rfl⟩
  case rest =>
    obtain ⟨k, N, rfl, HKN, hwc⟩ := hcut
    subst hwc
    have HMK := Lib.hid (show ∀ W : World, Below w.heap.size w W → Calls Try.prog 24 #[.int .i64 fn, .int .i64 x1, .slice a N cap] W (MakeFr W fn x1 k) from fun W hW => by rw [HKN.out.1]; exact make_fr fn x1 k a cap W (by have := HKN.out.2.1; unfold maxLen; omega) (HKN.out.2.2.below hW))
    have HLO := Lib.hid (show ∀ W : World, Below w.heap.size w W → Calls Try.prog 25 #[.int .i64 x1, .slice a N cap] W (LocalsPost W x1 k) from fun W hW => by rw [HKN.out.1]; exact refLocals_any x1 k a cap W (by have := HKN.out.2.1; unfold maxLen; omega) (HKN.out.2.2.below hW))
    clear HR HN0
    go_wp2_with fail
    refine (HMK.out _ HB1.out).mono ?_
    rintro r w2 ⟨b, s, c, rfl, hf, hb', hs', hc', hb2⟩
    have HF2 := Lib.hid (show FrameAt w2 b s c fn [] (localsV x1 k) ∧ (w.heap.size ≤ b ∧ w.heap.size ≤ s ∧ w.heap.size ≤ c) ∧ Below w.heap.size w w2 from ⟨hf, ⟨Nat.le_trans HB1.out.size hb', Nat.le_trans HB1.out.size hs', Nat.le_trans HB1.out.size hc'⟩, HB1.out.trans (hb2.mono HB1.out.size)⟩)
    clear hf hb' hs' hc' hb2 HMK HB1
    go_wp2_with fail
    refine (HLO.out _ (HF2.out.2.2.alloc HF2.out.2.2.size _)).mono ?_
    rintro r w3 ⟨av, cv, rfl, hnew⟩
    have HM0 := Lib.hid (show (localsV x1 k).length = localsN x1 ∧ MainAt w w3 b s c fn [] (localsV x1 k) (some ⟨w2.heap.size, 0, none⟩) 0 av from by
      have hlt := HF2.out.1.lt
      have hz := HF2.out.2.2.size
      have hb3 : Below w2.heap.size w2 w3 := ((Below.refl _ _).alloc (Nat.le_refl _) _).trans (hnew.2.2.2.mono (by simp))
      have hsz : w2.heap.size < w3.heap.size := by have := hnew.2.2.2.size; simp at this; omega
      refine ⟨localsV_len x1 k, ⟨HF2.out.1.below hb3, ⟨by simp, by simp [maxLen], fun h => by simp at h, fun x hx => ?_, fun _ => rfl⟩, fun x hx => ?_, HF2.out.2.2.trans (hb3.mono hz), HF2.out.2.1⟩, arg_new (n := localsN x1) (c := cv) hnew, fun y hy => ?_⟩
      · cases hx; exact ⟨hz, hsz⟩
      · cases hx; simp only; omega
      · have h1 := hnew.2.2.1 y hy
        have h2 := new_lt hnew y hy
        simp at h1
        refine ⟨by omega, by omega, by omega, by omega, h2, fun x hx => ?_⟩
        cases hx; simp only; omega)
    clear hnew HLO HF2
    generalize w2.heap.size = l0 at HM0 ⊢
    have hn16 := localsN_le x1
    generalize localsN x1 = n at HM0 hn16 ⊢
    generalize localsV x1 k = V0 at HM0
    go_wp2
    go_loopw [10, 12] (fun s10 i wr => ∃ (q : Nat) (l V : List Int) (a' : Option Addr) (ca : Nat), q ≤ m.length ∧ q ≤ 80 ∧ s10 = .slice a' l.length ca ∧ i = .int .i64 q ∧ Hid (V.length = n ∧ MainAt w wr b s c fn l V a' ca av)) (fun _ i _ => 80 - (intOf i).toNat)
    case atStart => exact ⟨0, [], V0, some ⟨l0, 0, none⟩, 0, by omega, by omega, rfl, rfl, HM0⟩
    case round =>
      obtain ⟨q, l, V, a', ca, hq, hq80, rfl, rfl, H⟩ := hrel
      by_cases hlt : q < m.length ∧ q < 80
      · obtain ⟨hlt1, hlt2⟩ := hlt
        obtain ⟨bm, om, rfl, hcell⟩ := HR2.out (by omega)
        obtain ⟨d0, d1, d2, lv, d3, hLv⟩ := hcell q hlt1
        have hlb := block_lt_of_cell d0
        have HO := Lib.hid (HOK.out _ (List.getElem_mem hlt1))
        clear hcell
        generalize m[q] = f at d0 d1 d2 HO hLv
        obtain ⟨kd, nn, xx, ll⟩ := f
        simp only at d0 d1 d2 HO hLv
        obtain ⟨la, cl, rfl, hLv'⟩ := hLv
        have HLV := Lib.hid (show ActL w (.slice la ll.length cl) ll from ⟨la, cl, rfl, hLv'⟩)
        have hBw := H.out.2.1.2.2.2.1
        have c0 := (hBw.cell (p := ⟨bm, om + q * 4, none⟩) hlb).trans d0
        have c1 := (hBw.cell (p := ⟨bm, om + q * 4 + 1, none⟩) hlb).trans d1
        have c2 := (hBw.cell (p := ⟨bm, om + q * 4 + 2, none⟩) hlb).trans d2
        have c3 := (hBw.cell (p := ⟨bm, om + q * 4 + 3, none⟩) hlb).trans d3
        clear d0 d1 d2 d3 hBw hLv'
        have HBX := Lib.hid (show V.length = n ∧ MainAt w (wr.alloc (.cells #[.int .i64 kd, .int .i64 nn, .int .i64 xx, .slice la ll.length cl] 47)) b s c fn l V a' ca av from ⟨H.out.1, H.out.2.keep ((Below.refl _ _).alloc (Nat.le_refl _) _)⟩)
        go_upto_block 2 with (fail)
        have x0 : (wr.alloc (.cells #[.int .i64 kd, .int .i64 nn, .int .i64 xx, .slice la ll.length cl] 47)).cell? ⟨wr.heap.size, 0, none⟩ = some (.int .i64 kd) := by simp
        have x1' : (wr.alloc (.cells #[.int .i64 kd, .int .i64 nn, .int .i64 xx, .slice la ll.length cl] 47)).cell? ⟨wr.heap.size, 1, none⟩ = some (.int .i64 nn) := by simp
        have x2 : (wr.alloc (.cells #[.int .i64 kd, .int .i64 nn, .int .i64 xx, .slice la ll.length cl] 47)).cell? ⟨wr.heap.size, 2, none⟩ = some (.int .i64 xx) := by simp
        have x3 : (wr.alloc (.cells #[.int .i64 kd, .int .i64 nn, .int .i64 xx, .slice la ll.length cl] 47)).cell? ⟨wr.heap.size, 3, none⟩ = some (.slice la ll.length cl) := by simp
        have hX := H.out.2.1.1.lt
        have hXl : wr.heap.size < (wr.alloc (.cells #[.int .i64 kd, .int .i64 nn, .int .i64 xx, .slice la ll.length cl] 47)).heap.size := by simp
        clear c0 c1 c2 c3
        generalize wr.alloc (.cells #[.int .i64 kd, .int .i64 nn, .int .i64 xx, .slice la ll.length cl] 47) = W at HBX x0 x1' x2 x3 hXl ⊢
        have HXN := Lib.hid hX
        clear hX
        generalize wr.heap.size = X at x0 x1' x2 x3 HXN hXl ⊢
        go_cut [10] (fun s10 wx => ∃ (l V : List Int) (a' : Option Addr) (ca : Nat), s10 = .slice a' l.length ca ∧ Hid (V.length = n ∧ MainAt w wx b s c fn l V a' ca av))
        case first =>
          by_cases k1 : kd = 1
          · subst k1
            go_wp2_with fail
            refine (stack_push w W b s c fn l V a' ca nn xx la ll cl HBX.out.2.1 HLV.out HO.out.2.2.2).mono ?_
            rintro r w4 ⟨l4, a4, c4, rfl, hp4, ht4, ha4⟩
            have H4 := Lib.hid (show V.length = n ∧ MainAt w w4 b s c fn l4 V a4 c4 av from ⟨HBX.out.1, HBX.out.2.play hp4 ht4 ha4⟩)
            clear hp4 ht4 ha4
            go_wp2
            go_meet
            exact ⟨l4, V, a4, c4, rfl, H4⟩
          · have k1b : (kd == 1) = false := by simpa using k1
            clear k1
            by_cases k2 : kd = 2
            · subst k2
              go_wp2_with fail
              refine (stack_pop w W b s c fn l V a' ca nn xx la ll.length cl HBX.out.2.1).mono ?_
              rintro r w4 ⟨l4, a4, c4, rfl, hp4, ht4, ha4⟩
              have H4 := Lib.hid (show V.length = n ∧ MainAt w w4 b s c fn l4 V a4 c4 av from ⟨HBX.out.1, HBX.out.2.play hp4 ht4 ha4⟩)
              clear hp4 ht4 ha4
              go_wp2
              go_meet
              exact ⟨l4, V, a4, c4, rfl, H4⟩
            · have k2b : (kd == 2) = false := by simpa using k2
              clear k2
              by_cases k3 : kd = 3
              · subst k3
                go_wp2_with fail
                refine (stack_take w W b s c fn l V a' ca nn xx la ll.length cl HBX.out.2.1).mono ?_
                rintro r w4 ⟨l4, a4, c4, rfl, hp4, ht4, ha4⟩
                have H4 := Lib.hid (show V.length = n ∧ MainAt w w4 b s c fn l4 V a4 c4 av from ⟨HBX.out.1, HBX.out.2.play hp4 ht4 ha4⟩)
                clear hp4 ht4 ha4
                go_wp2
                go_meet
                exact ⟨l4, V, a4, c4, rfl, H4⟩
              · have k3b : (kd == 3) = false := by simpa using k3
                clear k3
                by_cases k5 : kd = 5
                · subst k5
                  have HVN := Lib.hid HBX.out.1
                  by_cases hin : 0 ≤ nn ∧ nn < (n : Int)
                  · obtain ⟨p, rfl⟩ := Int.eq_ofNat_of_zero_le hin.1
                    have hpn : p < n := by omega
                    have hpd : decide (p < n) = true := by simpa using hpn
                    have hpv : p < V.length := by have := HVN.out; omega
                    obtain ⟨R, hR, hcell, hfz, hRl⟩ := HBX.out.2.2.1 (by omega)
                    subst hR
                    have HSL := Lib.hid (setLocal_yes b s c fn l V p xx W HBX.out.2.1.1 hpv)
                    have HCR := Lib.hid (show ∀ w1, FrameTo W b s c fn l (V.set p xx) w1 → w1.cell? ⟨R, p, none⟩ = some (.int .i64 V[p]) ∧ w1.frozen? ⟨R, p, none⟩ = false ∧ w1.cell? ⟨X, 1, none⟩ = some (.int .i64 (p : Int)) ∧ w1.cell? ⟨X, 2, none⟩ = some (.int .i64 xx) from fun w1 ht => by
                      have hRy := HBX.out.2.2.2 ⟨R, 0, none⟩ rfl
                      simp only at hRy
                      have hXX := HXN.out
                      exact ⟨(ht.2.cell (p := ⟨R, p, none⟩) hRl (by rintro (e | e); exact hRy.2.1 e; exact hRy.2.2.1 e)).trans (hcell p hpv (Nat.zero_le _)), (ht.2.frozen (p := ⟨R, p, none⟩) hRl (by rintro (e | e); exact hRy.2.1 e; exact hRy.2.2.1 e)).trans (hfz p),
                        (ht.2.cell (p := ⟨X, 1, none⟩) hXl (by show ¬ (X = s ∨ X = c); omega)).trans x1', (ht.2.cell (p := ⟨X, 2, none⟩) hXl (by show ¬ (X = s ∨ X = c); omega)).trans x2⟩)
                    clear hcell hfz hRl hin
                    go_wp2_with fail
                    refine HSL.out.mono ?_
                    rintro r w4 ⟨rfl, hto⟩
                    obtain ⟨e0, e1, e2, e3⟩ := HCR.out w4 hto
                    have H4 := Lib.hid (show (V.set p xx).length = n ∧ MainAt w (w4.setCell ⟨R, p, none⟩ (.int .i64 xx)) b s c fn l (V.set p xx) a' ca (some ⟨R, 0, none⟩) from ⟨by rw [List.length_set]; exact HVN.out, HBX.out.2.local hpv hto⟩)
                    clear hto HCR HSL x0 x1' x2 x3
                    go_wp2
                    go_meet
                    exact ⟨l, V.set p xx, a', ca, rfl, H4⟩
                  · have hout : nn < 0 ∨ (n : Int) ≤ nn := by omega
                    have HSL := Lib.hid (setLocal_no b s c fn l V nn xx W HBX.out.2.1.1 (by have := HVN.out; omega))
                    clear hin
                    rcases hout with ho | ho
                    · go_wp2_with fail
                      refine HSL.out.mono ?_
                      rintro r w4 ⟨rfl, rfl⟩
                      go_wp2
                      go_meet
                      exact ⟨l, V, a', ca, rfl, HBX⟩
                    · have hnd : decide (nn < (n : Int)) = false := by simp; omega
                      go_wp2_with fail
                      refine HSL.out.mono ?_
                      rintro r w4 ⟨rfl, rfl⟩
                      go_wp2
                      go_meet
                      exact ⟨l, V, a', ca, rfl, HBX⟩
                · have k5b : (kd == 5) = false := by simpa using k5
                  clear k5
                  go_wp2
                  go_meet
                  exact ⟨l, V, a', ca, rfl, HBX⟩
        case rest =>
          clear HBX x0 x1' x2 x3 hXl HXN H HLV HO
          obtain ⟨l, V, a', ca, rfl, H⟩ := hcut
          have hF := H.out.2.1.1
          have f0 := hF.2.1
          have f1 := hF.2.2.1
          have f2 := hF.2.2.2.1
          have hl64 := hF.1.len
          have HS := Lib.hid hF.1
          have HFr := Lib.hid hF
          have HVN := Lib.hid H.out.1
          clear hF
          have hll : ((l.length : Int) != (l.length : Int)) = false := by simp
          have hff : (fn != fn) = false := by simp
          have hl64' : decide ((64 : Int) < (l.length : Int)) = false := by simp; omega
          have hl64n : decide (64 < l.length) = false := by simp; omega
          go_wp2_with fail
          refine (len_stack s l _ HS.out).mono ?_
          rintro r w5 ⟨rfl, rfl⟩
          go_wp2_with fail
          refine (len_stack s l _ HS.out).mono ?_
          rintro r w5 ⟨rfl, rfl⟩
          go_wp2
          go_loop [17] (fun i => ∃ (j : Nat) (z : Int), j ≤ 18 ∧ i = .int .i64 z ∧ z = (j : Int) - 1) (fun i => (17 - intOf i).toNat)
          case atStart => exact ⟨0, _, by omega, rfl, rfl⟩
          case round =>
            obtain ⟨j, z, hj, rfl, hz⟩ := hrel
            by_cases hj18 : j = 18
            · have hz17 : (16 : Int) < z := by omega
              clear hz
              go_wp2
              go_roundw
              case rel => exact ⟨q + 1, l, V, a', ca, by omega, by omega, rfl, by go_num, H⟩
              case measure => simp [intOf]; omega
            · have hz16 : z ≤ 16 := by omega
              have hzm : -1 ≤ z := by omega
              have HZ := Lib.hid hz
              clear hz
              by_cases hin : 0 ≤ z ∧ z < (n : Int)
              · obtain ⟨p, rfl⟩ := Int.eq_ofNat_of_zero_le hin.1
                have hpn : p < n := by omega
                have hpd : decide (p < n) = true := by simpa using hpn
                have hpv : p < V.length := by have := HVN.out; omega
                obtain ⟨R, hR, hcell, hfz, hRl⟩ := H.out.2.2.1 (by omega)
                subst hR
                have HLY := Lib.hid (local_yes b s c fn l V p _ HFr.out hpv)
                have HGD := Lib.hid (show V.getD p 0 = V[p] by simp [List.getD, List.getElem?_eq_getElem hpv])
                rw [HGD.out] at HLY
                have hcp := hcell p hpv (Nat.zero_le _)
                have hcp' : wc.cell? ⟨R, 0 + p, none⟩ = some (.int .i64 V[p]) := by rw [Nat.zero_add]; exact hcp
                clear hcell hfz hRl hin HGD
                generalize V[p] = y at HLY hcp hcp'
                have hyy : (y != y) = false := by simp
                go_wp2_with fail
                refine HLY.out.mono ?_
                rintro r w6 ⟨rfl, rfl⟩
                go_wp2
                go_round
                case rel => exact ⟨j + 1, _, by omega, rfl, by have := HZ.out; omega⟩
                case measure => simp [intOf]; omega
              · have hout : z < 0 ∨ (n : Int) ≤ z := by omega
                have HLN := Lib.hid (local_no b s c fn l V z _ HFr.out (by have := HVN.out; omega))
                clear hin
                rcases hout with ho | ho
                · go_wp2_with fail
                  refine HLN.out.mono ?_
                  rintro r w6 ⟨rfl, rfl⟩
                  go_wp2
                  go_round
                  case rel => exact ⟨j + 1, _, by omega, rfl, by have := HZ.out; omega⟩
                  case measure => simp [intOf]; omega
                · have hnd : decide (z < (n : Int)) = false := by simp; omega
                  go_wp2_with fail
                  refine HLN.out.mono ?_
                  rintro r w6 ⟨rfl, rfl⟩
                  go_wp2
                  go_round
                  case rel => exact ⟨j + 1, _, by omega, rfl, by have := HZ.out; omega⟩
                  case measure => simp [intOf]; omega
      · go_wp2
        all_goals
          go_ret
          exact ⟨rfl, H.out.2.1.2.2.2.1⟩
end Go.Proofs.Ytmghhigepjeicaa
