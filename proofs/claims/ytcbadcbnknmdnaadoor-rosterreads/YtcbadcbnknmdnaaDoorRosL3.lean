/-
  Layer 18: the law's own: a roster is the document's.
-/
import Derived.Test.YtcbadcbnknmdnaaDoorRosL1
import Derived.Test.YtcbadcbnknmdnaaDoorRosR6
import Derived.Deep.RegionHeld3
namespace Go.Proofs.YtcbadcbnknmdnaaDoor
open Go.RowKit
set_option linter.unusedVariables false

theorem keep4i {w w' : World} {p q r s : Addr} {a b c d : Value} (hb : Below w.heap.size w w') (h : w.cell? p = some a ∧ w.cell? q = some b ∧ w.cell? r = some c ∧ w.cell? s = some d) : w'.cell? p = some a ∧ w'.cell? q = some b ∧ w'.cell? r = some c ∧ w'.cell? s = some d :=
  ⟨(hb.cell (block_lt_of_cell h.1)).trans h.1, (hb.cell (block_lt_of_cell h.2.1)).trans h.2.1, (hb.cell (block_lt_of_cell h.2.2.1)).trans h.2.2.1, (hb.cell (block_lt_of_cell h.2.2.2)).trans h.2.2.2⟩
theorem wp_region_c18 {P : Program} {C : World → Prop} {id : Nat} {Q : Exit → Act → World → Prop} {a : Act} {w : World} {l : List Oper} (hm : P.follows .mixedOrders = true) (hB : Region.lexB .any l.toArray = true) (hC : C { w with drawn := w.drawn + 1 })
    (h : wpQuiet P l.toArray C (fun a' => ∀ w', C w' → Q .normal a' w') l a) : (Code.region id l.toArray true).wp P Q a w :=
  wp_region_quiet (C := C) hm hB hC (by simpa using h)
/-- What the comparison reads: two boxes, and the document's list. -/
structure IsC (w : World) (n : Nat) (e : Int) (a : Option Addr) (c LN : Nat) (L : List Int) (W : World) : Prop where
  r0 : W.cell? ⟨w.heap.size, 0, none⟩ = some (.int .u32 (n : Int))
  r1 : W.cell? ⟨w.heap.size, 1, none⟩ = some (.int .i64 e)
  x0 : W.cell? ⟨w.heap.size + 1, 0, none⟩ = some (.slice a LN c)
  x1 : W.cell? ⟨w.heap.size + 1, 1, none⟩ = some (.int .i64 e)
  row : ActL W (.slice a LN c) L
  tab : DbAt W
  bel : Below w.heap.size w W
theorem IsC.lt {w : World} {n : Nat} {e : Int} {a : Option Addr} {c LN : Nat} {L : List Int} {W : World} (h : IsC w n e a c LN L W) : w.heap.size + 1 < W.heap.size := block_lt_of_cell h.x0
theorem IsC.keep {w : World} {n : Nat} {e : Int} {a : Option Addr} {c LN : Nat} {L : List Int} {W W' : World} (h : IsC w n e a c LN L W) (hb : Below W.heap.size W W') : IsC w n e a c LN L W' := by
  obtain ⟨h1, h2, h3, h4⟩ := keep4i hb ⟨h.r0, h.r1, h.x0, h.x1⟩
  exact ⟨h1, h2, h3, h4, h.row.below hb, h.tab.below hb, h.bel.trans (hb.mono h.bel.size)⟩
theorem IsC.new {w : World} {n : Nat} {e : Int} {a : Option Addr} {c LN : Nat} {L : List Int} (h : ActL w (.slice a LN c) L) (hT : DbAt w) : IsC w n e a c LN L ((w.alloc (.cells #[.int .u32 (n : Int), .int .i64 e] 27)).alloc (.cells #[.slice a LN c, .int .i64 e] 30)) := by
  have e1 : (w.alloc (.cells #[.int .u32 (n : Int), .int .i64 e] 27)).heap.size = w.heap.size + 1 := by simp
  have hb : Below w.heap.size w ((w.alloc (.cells #[.int .u32 (n : Int), .int .i64 e] 27)).alloc (.cells #[.slice a LN c, .int .i64 e] 30)) := bel_alloc (bel_alloc (Below.refl _ _) _) _
  exact ⟨alloc_cell (new_cell rfl rfl) _, alloc_cell (new_cell rfl rfl) _, new_cell e1.symm rfl, new_cell e1.symm rfl, h.below hb, hT.below hb, hb⟩
set_option maxRecDepth 100000 in
set_option maxHeartbeats 20000000 in
theorem is18_any (n : Nat) (e : Int) (a : Option Addr) (c : Nat) (w : World) (hn : n < 4294967296) (h0 : ActL w (.slice a (lenP n) c) (lstP n)) (hT : DbAt w) : Calls Tryd.prog 23 #[rosV n e, docV a (lenP n) c e] w fun r w' => r = .returned (.int .i64 0) ∧ Below w.heap.size w w' := by
  have HC := Lib.hid (IsC.new (n := n) (e := e) h0 hT)
  have HALL := Lib.hid (fun W => rall_any n e W hn)
  have HLEN := Lib.hid (fun W => rlen_any n e W hn)
  have HEP := Lib.hid (fun W => repoch_any n e W)
  have HFREE := Lib.hid (fun W (hW : DbAt W) => rfree_any n e W hn hW)
  have HHAS := Lib.hid (fun x W => rhas_any n e x W hn)
  have HDH := Lib.hid (fun x W (hW : ActL W (.slice a (lenP n) c) (lstP n)) => dhas_lst n a c e x W (act_row rfl hW).1)
  have HSA := Lib.hid (fun b d W (h1 : ActL W (.slice b (lenP n) d) (lstP n)) (h2 : ActL W (.slice a (lenP n) c) (lstP n)) => same18_any b a d c (lstP n) W (act_row rfl h1).1 (act_row rfl h2).1 (lenP n) rfl (by have := lstK_len n 32; unfold lstP; omega))
  have HFR := Lib.hid (freeP_is hn)
  unfold RAllPost at HALL
  clear h0 hT
  unfold rosV at *
  unfold docV at *
  have HLL := Lib.hid (lenP_le n)
  have HLE : Hid ((lstP n).length = lenP n) := Lib.hid rfl
  simp only [show (lstP n).length = lenP n from rfl] at HALL
  generalize lenP n = LN at *
  generalize lstP n = L at *
  go_enter Tryd.func23, Tryd.ntmps23
  go_upto_region 1 with (fail)
  generalize (w.alloc (.cells #[.int .u32 (n : Int), .int .i64 e] 27)).alloc (.cells #[.slice a LN c, .int .i64 e] 30) = W at HC ⊢
  have HB := Lib.hid HC.out.bel.drew
  have hlt := HC.out.lt
  have r0 := HC.out.r0
  have r1 := HC.out.r1
  have x0 := HC.out.x0
  have x1 := HC.out.x1
  have HLX := Lib.hid (show ActL W.drew (.slice a LN c) L from HC.out.row.below (Below.refl _ _).drew)
  have HTB := Lib.hid (show DbAt W.drew from HC.out.tab.below (Below.refl _ _).drew)
  go_region_held3 (fun w' => w'.cell? ⟨w.heap.size, 0, none⟩ = some (.int .u32 (n : Int)) ∧ w'.cell? ⟨w.heap.size, 1, none⟩ = some (.int .i64 e) ∧ w'.cell? ⟨w.heap.size + 1, 0, none⟩ = some (.slice a LN c) ∧ w'.cell? ⟨w.heap.size + 1, 1, none⟩ = some (.int .i64 e))
    (first | assumption | (refine keep4i hbK ?_; assumption) | exact ⟨r0, r1, x0, x1⟩)
    (first
      | (go_at_call 44; refine (HALL.out _).mono ?_; rintro r wK ⟨ax, cx, rfl, HLA, hbK⟩; have HLX := Lib.hid (HLX.out.below hbK); have HTB := Lib.hid (HTB.out.below hbK); have HB := Lib.hid (HB.out.trans (hbK.mono HB.out.size)))
      | (go_at_call 16; refine (HSA.out _ _ _ HLA.out HLX.out).mono ?_; rintro r wK ⟨rfl, hbK⟩; have HLX := Lib.hid (HLX.out.below hbK); have HTB := Lib.hid (HTB.out.below hbK); have HB := Lib.hid (HB.out.trans (hbK.mono HB.out.size)))
      | (go_at_call 29; refine (HLEN.out _).mono ?_; rintro r wK ⟨rfl, hbK⟩; have HLX := Lib.hid (HLX.out.below hbK); have HTB := Lib.hid (HTB.out.below hbK); have HB := Lib.hid (HB.out.trans (hbK.mono HB.out.size)))
      | (go_at_call 31; refine (HEP.out _).mono ?_; rintro r wK ⟨rfl, hbK⟩; have HLX := Lib.hid (HLX.out.below hbK); have HTB := Lib.hid (HTB.out.below hbK); have HB := Lib.hid (HB.out.trans (hbK.mono HB.out.size))))
  have HCK : Hid (IsC w n e a c LN L wK) := Lib.hid (by
    have hS : wK.cell? ⟨w.heap.size, 0, none⟩ = some (.int .u32 (n : Int)) ∧ wK.cell? ⟨w.heap.size, 1, none⟩ = some (.int .i64 e) ∧ wK.cell? ⟨w.heap.size + 1, 0, none⟩ = some (.slice a LN c) ∧ wK.cell? ⟨w.heap.size + 1, 1, none⟩ = some (.int .i64 e) := by assumption
    exact ⟨hS.1, hS.2.1, hS.2.2.1, hS.2.2.2, HLX.out, HTB.out, HB.out⟩)
  have r0 := HCK.out.r0
  have r1 := HCK.out.r1
  have hltK := HCK.out.lt
  clear HLX HTB HB HLA hbK HALL HLEN HEP HSA HC x0 x1
  rcases HFR.out with ⟨hf, hl⟩ | HF3
  · rw [hf] at HFREE
    subst hl
    clear HFR
    go_wp2_with fail
    refine (HFREE.out _ HCK.out.tab).mono ?_
    rintro r wF ⟨rfl, hbF⟩
    have HCF := Lib.hid (HCK.out.keep hbF)
    clear hbF HCK HFREE
    go_wp2
    go_loopw [7] (fun v wr => ∃ (j : Nat) (z : Int), j ≤ 34 ∧ v = .int .i64 z ∧ Hid (z = (j : Int) - 1 ∧ IsC w n e a c 32 L wr)) (fun v _ => 34 - (intOf v + 1).toNat)
    case atStart => exact ⟨0, -1, by omega, rfl, Lib.hid ⟨rfl, HCF.out⟩⟩
    case round =>
      obtain ⟨j, z, hj, rfl, HM⟩ := hrel
      have hz1 : -1 ≤ z := by have := HM.out.1; omega
      have r0 := HM.out.2.r0
      have r1 := HM.out.2.r1
      have x0 := HM.out.2.x0
      have x1 := HM.out.2.x1
      have hlw := HM.out.2.lt
      by_cases hle : z ≤ 32
      · have HHZ := Lib.hid (fun W => HHAS.out z W)
        have HDZ := Lib.hid (fun W hW => HDH.out z W hW)
        have hj33 : j ≤ 33 := by have := HM.out.1; omega
        generalize hasP n z = b at HHZ HDZ
        cases b
        all_goals
          skip
          all_goals
            skip
            all_goals
              go_upto_region 7 with (fail)
              refine wp_region_c18 (C := fun W => IsC w n e a c 32 L W) (by kernel_rfl) (by kernel_rfl) (HM.out.2.keep (Below.refl _ _).drew) ?_
              repeat
                (refine wpQuiet_step (fun K hK => ?_)
                 go_simp
                 first
                   | (refine hK _ ?_; clear hK K)
                   | (apply Exists.intro
                      refine ⟨fun W hW => ?_, hK _ ?_⟩
                      (first
                        | (go_at_call 30; exact (HHZ.out W).mono fun r W' h => ⟨h.1, hW.keep h.2⟩)
                        | (go_at_call 33; exact (HDZ.out W hW.row).mono fun r W' h => ⟨h.1, hW.keep h.2⟩)
                        | (have y0 := hW.r0; have y1 := hW.r1; have y2 := hW.x0; have y3 := hW.x1; clear hW; go_simp; first | exact ⟨rfl, rfl⟩ | exact rfl | trivial))
                      clear hK K))
              refine wpQuiet_nil ?_
              intro W9 hW9
              have HC9 := Lib.hid hW9
              clear hW9
              go_wp2
              go_roundw
              case rel => exact ⟨j + 1, z + 1, by omega, by go_num, Lib.hid ⟨by have := HM.out.1; omega, HC9.out⟩⟩
              case measure => simp [intOf]; have := HM.out.1; omega
      · have hge : 32 < z := by omega
        have hd : decide (((32 : Nat) : Int) < 32) = false := by decide
        go_wp2
        go_ret
        exact ⟨rfl, HM.out.2.bel⟩
  · have HF3 := Lib.hid HF3
    have hok : decide (freeP n < 32) = true := decide_eq_true HF3.out.1
    rw [hok] at HFREE
    clear HFR hok
    generalize freeP n = f at HFREE HF3
    have hf32 : (f : Int) < 32 := by have := HF3.out.1; omega
    go_wp2_with fail
    refine (HFREE.out _ HCK.out.tab).mono ?_
    rintro r wF ⟨rfl, hbF⟩
    have HCF := Lib.hid (HCK.out.keep hbF)
    clear hbF HCK HFREE
    go_wp2
    go_loopw [7] (fun v wr => ∃ (j : Nat) (z : Int), j ≤ 34 ∧ v = .int .i64 z ∧ Hid (z = (j : Int) - 1 ∧ IsC w n e a c LN L wr)) (fun v _ => 34 - (intOf v + 1).toNat)
    case atStart => exact ⟨0, -1, by omega, rfl, Lib.hid ⟨rfl, HCF.out⟩⟩
    case round =>
      obtain ⟨j, z, hj, rfl, HM⟩ := hrel
      have hz1 : -1 ≤ z := by have := HM.out.1; omega
      have r0 := HM.out.2.r0
      have r1 := HM.out.2.r1
      have x0 := HM.out.2.x0
      have x1 := HM.out.2.x1
      have hlw := HM.out.2.lt
      by_cases hle : z ≤ 32
      · have HHZ := Lib.hid (fun W => HHAS.out z W)
        have HDZ := Lib.hid (fun W hW => HDH.out z W hW)
        have HBT := Lib.hid (fun (h0 : 0 ≤ z) (h1 : z < (f : Int)) => show hasP n z = true by rw [hasP_iff]; exact ⟨h0, by have := HF3.out.1; omega, HF3.out.2.2.1 _ (by omega)⟩)
        have hj33 : j ≤ 33 := by have := HM.out.1; omega
        generalize hasP n z = b at HHZ HDZ HBT
        have hcs : (decide (0 ≤ z) = false) ∨ (decide (0 ≤ z) = true ∧ decide (z < (f : Int)) = false) ∨ (decide (0 ≤ z) = true ∧ decide (z < (f : Int)) = true ∧ b = true) := by
          by_cases h0 : 0 ≤ z
          · by_cases h1 : z < (f : Int)
            · exact .inr (.inr ⟨decide_eq_true h0, decide_eq_true h1, HBT.out h0 h1⟩)
            · exact .inr (.inl ⟨decide_eq_true h0, decide_eq_false h1⟩)
          · exact .inl (decide_eq_false h0)
        clear HBT
        rcases hcs with hd0 | ⟨hd0, hd1⟩ | ⟨hd0, hd1, hd2⟩
        all_goals
          (first | subst hd2 | cases b)
          all_goals
            skip
            all_goals
              go_upto_region 7 with (fail)
              refine wp_region_c18 (C := fun W => IsC w n e a c LN L W) (by kernel_rfl) (by kernel_rfl) (HM.out.2.keep (Below.refl _ _).drew) ?_
              repeat
                (refine wpQuiet_step (fun K hK => ?_)
                 go_simp
                 first
                   | (refine hK _ ?_; clear hK K)
                   | (apply Exists.intro
                      refine ⟨fun W hW => ?_, hK _ ?_⟩
                      (first
                        | (go_at_call 30; exact (HHZ.out W).mono fun r W' h => ⟨h.1, hW.keep h.2⟩)
                        | (go_at_call 33; exact (HDZ.out W hW.row).mono fun r W' h => ⟨h.1, hW.keep h.2⟩)
                        | (have y0 := hW.r0; have y1 := hW.r1; have y2 := hW.x0; have y3 := hW.x1; clear hW; go_simp; first | exact ⟨rfl, rfl⟩ | exact rfl | trivial))
                      clear hK K))
              refine wpQuiet_nil ?_
              intro W9 hW9
              have HC9 := Lib.hid hW9
              clear hW9
              go_wp2
              go_roundw
              case rel => exact ⟨j + 1, z + 1, by omega, by go_num, Lib.hid ⟨by have := HM.out.1; omega, HC9.out⟩⟩
              case measure => simp [intOf]; have := HM.out.1; omega
      · have hge : 32 < z := by omega
        have hd : decide ((LN : Int) < 32) = true := decide_eq_true (by have := HF3.out.2.2.2; omega)
        have HHF := Lib.hid (fun W => HHAS.out (f : Int) W)
        rw [show hasP n (f : Int) = false by
          have h1 := HF3.out.2.1
          have h2 := HF3.out.1
          cases h3 : hasP n (f : Int) with
          | false => rfl
          | true => have := (hasP_iff.1 h3).2.2; simp at this; rw [h1] at this; cases this] at HHF
        have HBW := Lib.hid HM.out.2.bel
        clear HM
        go_wp2_with fail
        refine (HHF.out _).mono ?_
        rintro r wG ⟨rfl, hbG⟩
        have HBG := Lib.hid (HBW.out.trans (hbG.mono HBW.out.size))
        clear hbG
        go_wp2
        go_ret
        exact ⟨rfl, HBG.out⟩
end Go.Proofs.YtcbadcbnknmdnaaDoor
