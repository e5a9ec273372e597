/-
  The walk of the law RosterReads.
-/
import Derived.Test.YtcbadcbnknmdnaaDoorRosT6
import Derived.Test.YtcbadcbnknmdnaaDoorFew
namespace Go.Proofs.YtcbadcbnknmdnaaDoor
open Go.RowKit
set_option linter.unusedVariables false

/-- A change of the program's reader, and the document's. -/
structure RqA (w : World) (B C X D : Nat) (st : St) (k p : Int) (a1 a2 : Option Addr) (n c1 c2 : Nat) (V : List Int) (W : World) : Prop where
  into : InSt W B st
  c : W.cell? ⟨C, 0, none⟩ = some (.int .i64 k) ∧ W.cell? ⟨C, 1, none⟩ = some (.int .i64 p) ∧ W.cell? ⟨C, 2, none⟩ = some (.slice a1 n c1)
  d : W.cell? ⟨D, 0, none⟩ = some (.int .i64 k) ∧ W.cell? ⟨D, 1, none⟩ = some (.int .i64 p) ∧ W.cell? ⟨D, 2, none⟩ = some (.slice a2 n c2)
  x : W.cell? ⟨X, 0, none⟩ = some (.string (bs st.1)) ∧ W.cell? ⟨X, 1, none⟩ = some (.int .i64 (st.2 : Nat))
  vc : ActL W (.slice a1 n c1) V
  vd : ActL W (.slice a2 n c2) V
  tab : DbAt W
  bel : Below w.heap.size w W
theorem RqA.keep {w : World} {B C X D : Nat} {st : St} {k p : Int} {a1 a2 : Option Addr} {n c1 c2 : Nat} {V : List Int} {W W' : World} (h : RqA w B C X D st k p a1 a2 n c1 c2 V W) (hb : Below W.heap.size W W') : RqA w B C X D st k p a1 a2 n c1 c2 V W' :=
  ⟨h.into.below hb, keep3r hb h.c, keep3r hb h.d, ⟨(hb.cell (block_lt_of_cell h.x.1)).trans h.x.1, (hb.cell (block_lt_of_cell h.x.2)).trans h.x.2⟩, h.vc.below hb, h.vd.below hb, h.tab.below hb, h.bel.trans (hb.mono h.bel.size)⟩
/-- A roster of both. -/
structure RqB (w : World) (B R X D : Nat) (st : St) (m : Nat) (e : Int) (a : Option Addr) (c : Nat) (W : World) : Prop where
  into : InSt W B st
  r : W.cell? ⟨R, 0, none⟩ = some (.int .u32 (m : Int)) ∧ W.cell? ⟨R, 1, none⟩ = some (.int .i64 e) ∧ W.cell? ⟨D, 0, none⟩ = some (.slice a (lenP m) c) ∧ W.cell? ⟨D, 1, none⟩ = some (.int .i64 e)
  x : W.cell? ⟨X, 0, none⟩ = some (.string (bs st.1)) ∧ W.cell? ⟨X, 1, none⟩ = some (.int .i64 (st.2 : Nat))
  row : ActL W (.slice a (lenP m) c) (lstP m)
  tab : DbAt W
  bel : Below w.heap.size w W
theorem RqB.keep {w : World} {B R X D : Nat} {st : St} {m : Nat} {e : Int} {a : Option Addr} {c : Nat} {W W' : World} (h : RqB w B R X D st m e a c W) (hb : Below W.heap.size W W') : RqB w B R X D st m e a c W' :=
  ⟨h.into.below hb, keep4i hb h.r, ⟨(hb.cell (block_lt_of_cell h.x.1)).trans h.x.1, (hb.cell (block_lt_of_cell h.x.2)).trans h.x.2⟩, h.row.below hb, h.tab.below hb, h.bel.trans (hb.mono h.bel.size)⟩
theorem chgT_len (st : St) : (chgT (chgS st)).v.length ≤ 32 := by
  unfold chgT
  split
  · have hR : chgS st = ((runS votS (countS (countS (countS st 3).1 31).1 32).2 (countS (countS (countS st 3).1 31).1 32).1).1, ⟨((countS st 3).2 : Int), ((countS (countS st 3).1 31).2 : Int), (runS votS (countS (countS (countS st 3).1 31).1 32).2 (countS (countS (countS st 3).1 31).1 32).1).2⟩) := rfl
    have h := countS_le (countS (countS st 3).1 31).1 32
    have h2 := runS_len votS (countS (countS (countS st 3).1 31).1 32).2 (countS (countS (countS st 3).1 31).1 32).1
    rw [hR]
    simp only
    rw [h2]
    exact h
  · exact Nat.zero_le _
set_option maxRecDepth 100000 in
set_option maxHeartbeats 4000000 in
theorem rosterReads_walk (w : World) (a0 : ByteArray) (w0 : a0.size ≤ maxLen) (hT : DbAt w) :
    Calls Tryd.prog 4 #[.string a0] w fun e w' => e = .returned (.bool true) ∧ Below w.heap.size w w' := by
  have HAW := Lib.hid (awake18_any w)
  have HTAB := Lib.hid hT
  clear hT
  go_enter Tryd.func4, Tryd.ntmps4
  go_wp2_with fail
  refine (cut_any a0 60 _ w0 (by decide)).mono ?_
  rintro e w' ⟨rfl, rfl⟩
  have hs := cutB_le a0 60
  generalize cutB a0 60 = s at hs ⊢
  have hs9 : s.size ≤ 1000000000 := by omega
  have HSD := Lib.hid (show bs s.data.toList = s by simp [bs])
  have hok : StOk (s.data.toList, 0) := ⟨fun h => absurd rfl h, by simpa using hs9⟩
  have HRC := Lib.hid (fun B W (hW : InSt W B (s.data.toList, 0)) => rreadChange_any B (s.data.toList, 0) W hW)
  have HRD := Lib.hid (fun B W (hW : InSt W B (s.data.toList, 0)) => rread_any B (s.data.toList, 0) W hW)
  have hRR := fun W => refReadChange_any (s.data.toList, 0) W hok
  have hRF := fun W => refRead18_any (s.data.toList, 0) W hok
  simp only [HSD.out] at hRR hRF
  have hV := chgT_len (s.data.toList, 0)
  have hle := rosT_le (s.data.toList, 0)
  unfold RcPost at HRC
  unfold RrcPost at hRR
  unfold RReadPost18 at HRD
  unfold RrPost at hRF
  generalize chgS (s.data.toList, 0) = T at HRC hRR hV
  generalize chgT T = q at HRC hRR hV
  generalize rosS (s.data.toList, 0) = T2 at HRD hRF hle
  generalize rosT T2 = q2 at HRD hRF hle
  obtain ⟨⟨l, e⟩, tq⟩ := T
  obtain ⟨⟨l2, e2⟩, tq2⟩ := T2
  obtain ⟨k, p, V⟩ := q
  obtain ⟨m, e3⟩ := q2
  unfold chV at HRC hRR
  unfold rosV at HRD
  unfold docV at hRF
  simp only at HRC HRD hRR hRF hV hle
  have HRR := Lib.hid hRR
  have HRF := Lib.hid hRF
  have HLE := Lib.hid hle
  have HSA := Lib.hid (fun a b c d W (h1 : ActL W (.slice a V.length c) V) (h2 : ActL W (.slice b V.length d) V) => same18_any a b c d V W (act_row rfl h1).1 (act_row rfl h2).1 V.length rfl (by omega))
  have HIS := Lib.hid (fun (a4 : Option Addr) (c4 : Nat) (W : World) (h0 : ActL W (.slice a4 (lenP m) c4) (lstP m)) (hT : DbAt W) => is18_any m (e3 : Int) a4 c4 W HLE.out.1 h0 hT)
  unfold rosV docV at HIS
  clear hRR hRF hV hle hok
  generalize hN : V.length = N at HRC HRR HSA
  clear hN
  go_wp2_with fail
  refine HAW.out.mono ?_
  rintro r wa ⟨rfl, hba⟩
  have HBA := Lib.hid hba
  clear hba HAW
  go_wp2_with fail
  refine (open_any s _ hs9).mono ?_
  rintro r w2 ⟨rfl, hi2, hb2⟩
  have HI2 := Lib.hid hi2
  have HB2 := Lib.hid (HBA.out.trans (hb2.mono HBA.out.size))
  have hBz := HBA.out.size
  clear hi2 hb2 HBA
  generalize wa.heap.size = B at HI2 hBz ⊢
  go_wp2_with fail
  refine (HRC.out _ _ HI2.out).mono ?_
  rintro r w3 ⟨a1, c1, rfl, hi3, h3⟩
  dsimp only
  have HI3 := Lib.hid hi3.1
  have HB3 := Lib.hid (HB2.out.trans (hi3.2.below HB2.out.size (fun k hk e => by omega)))
  have HV3 := Lib.hid h3.out.1
  clear hi3 h3 HRC HI2 HB2
  have c0 : (w3.alloc (.cells #[.int .i64 k, .int .i64 p, .slice a1 N c1] 34)).cell? ⟨w3.heap.size, 0, none⟩ = some (.int .i64 k) := new_cell rfl rfl
  have c1' : (w3.alloc (.cells #[.int .i64 k, .int .i64 p, .slice a1 N c1] 34)).cell? ⟨w3.heap.size, 1, none⟩ = some (.int .i64 p) := new_cell rfl rfl
  have c2 : (w3.alloc (.cells #[.int .i64 k, .int .i64 p, .slice a1 N c1] 34)).cell? ⟨w3.heap.size, 2, none⟩ = some (.slice a1 N c1) := new_cell rfl rfl
  have HC3 := Lib.hid (And.intro c0 (And.intro c1' c2))
  have HBB := Lib.hid (bel_alloc (Below.refl _ w3) (.cells #[.int .i64 k, .int .i64 p, .slice a1 N c1] 34))
  clear c0 c1' c2
  go_wp2_with fail
  generalize w3.alloc (.cells #[.int .i64 k, .int .i64 p, .slice a1 N c1] 34) = W3 at HC3 HBB ⊢
  generalize w3.heap.size = C at HC3 ⊢
  have HI3 := Lib.hid (HI3.out.below HBB.out)
  have HV3 := Lib.hid (HV3.out.below HBB.out)
  have HB3 := Lib.hid (HB3.out.trans (HBB.out.mono HB3.out.size))
  clear HBB
  refine (HRR.out _).mono ?_
  rintro r w4 ⟨a2, c2, rfl, hb4, h4⟩
  dsimp only
  have HM : Hid (RqA w B C w4.heap.size (w4.heap.size + 1) (l, e) k p a1 a2 N c1 c2 V ((w4.alloc (.cells #[.string (bs l), .int .i64 (e : Nat)] 62)).alloc (.cells #[.int .i64 k, .int .i64 p, .slice a2 N c2] 47))) := Lib.hid (by
    have e1 : (w4.alloc (.cells #[.string (bs l), .int .i64 (e : Nat)] 62)).heap.size = w4.heap.size + 1 := by simp
    have hA : Below w4.heap.size w4 ((w4.alloc (.cells #[.string (bs l), .int .i64 (e : Nat)] 62)).alloc (.cells #[.int .i64 k, .int .i64 p, .slice a2 N c2] 47)) := bel_alloc (bel_alloc (Below.refl _ _) _) _
    have hA3 := hb4.trans (hA.mono hb4.size)
    exact ⟨HI3.out.below hA3, keep3r hA3 HC3.out, ⟨new_cell e1.symm rfl, new_cell e1.symm rfl, new_cell e1.symm rfl⟩, ⟨alloc_cell (new_cell rfl rfl) _, alloc_cell (new_cell rfl rfl) _⟩, HV3.out.below hA3, h4.out.1.below hA, HTAB.out.below (HB3.out.trans (hA3.mono HB3.out.size)), HB3.out.trans (hA3.mono HB3.out.size)⟩)
  clear hb4 h4 HRR HI3 HV3 HB3 HC3
  go_upto_region 7 with (fail)
  generalize (w4.alloc (.cells #[.string (bs l), .int .i64 (e : Nat)] 62)).alloc (.cells #[.int .i64 k, .int .i64 p, .slice a2 N c2] 47) = W5 at HM ⊢
  generalize w4.heap.size + 1 = D at HM ⊢
  generalize w4.heap.size = X at HM ⊢
  have hz := bs_size l
  · refine wp_region_c18 (C := fun W => RqA w B C X D (l, e) k p a1 a2 N c1 c2 V W) (by kernel_rfl) (by kernel_rfl) (HM.out.keep (Below.refl _ _).drew) ?_
    repeat
      (refine wpQuiet_step (fun K hK => ?_)
       go_simp
       first
         | (refine hK _ ?_; clear hK K)
         | (apply Exists.intro
            refine ⟨fun W hW => ?_, hK _ ?_⟩
            (first
              | (go_at_call 26; exact (err_any B l e W hW.into).mono fun r W' h => ⟨h.1, by have h2 := h.2; subst h2; exact hW⟩)
              | (go_at_call 27; exact (len_any B l e W hW.into).mono fun r W' h => ⟨h.1, by have h2 := h.2; subst h2; exact hW⟩)
              | (go_at_call 16; exact (HSA.out _ _ _ _ W hW.vc hW.vd).mono fun r W' h => ⟨h.1, hW.keep h.2⟩)
              | (have y0 := hW.c.1; have y1 := hW.c.2.1; have y2 := hW.c.2.2; have y3 := hW.d.1; have y4 := hW.d.2.1; have y5 := hW.d.2.2; have y6 := hW.x.1; have y7 := hW.x.2; clear hW; go_simp; first | exact ⟨rfl, rfl⟩ | exact rfl | trivial))
            clear hK K))
    refine wpQuiet_nil ?_
    intro W6 hW6
    have HTB := Lib.hid hW6.tab
    have HBW := Lib.hid hW6.bel
    clear hW6 HM HSA hz
    go_wp2_with fail
    refine (open_any s _ hs9).mono ?_
    rintro r w7 ⟨rfl, hi7, hb7⟩
    have HI7 := Lib.hid hi7
    have HB7 := Lib.hid (HBW.out.trans (hb7.mono HBW.out.size))
    have hBz := HBW.out.size
    clear hi7 hb7 HBW HTB
    generalize W6.heap.size = B2 at HI7 hBz ⊢
    go_wp2_with fail
    refine (HRD.out _ _ HI7.out).mono ?_
    rintro r w8 ⟨rfl, hi8⟩
    dsimp only
    have HI8 := Lib.hid hi8.1
    have HB8 := Lib.hid (HB7.out.trans (hi8.2.below HB7.out.size (fun k hk e => by omega)))
    clear hi8 HRD HI7 HB7
    have HC8 : Hid ((w8.alloc (.cells #[.int .u32 (m : Int), .int .i64 (e3 : Int)] 27)).cell? ⟨w8.heap.size, 0, none⟩ = some (.int .u32 (m : Int)) ∧ (w8.alloc (.cells #[.int .u32 (m : Int), .int .i64 (e3 : Int)] 27)).cell? ⟨w8.heap.size, 1, none⟩ = some (.int .i64 (e3 : Int))) := Lib.hid ⟨new_cell rfl rfl, new_cell rfl rfl⟩
    have HBB := Lib.hid (bel_alloc (Below.refl _ w8) (.cells #[.int .u32 (m : Int), .int .i64 (e3 : Int)] 27))
    go_wp2_with fail
    generalize w8.alloc (.cells #[.int .u32 (m : Int), .int .i64 (e3 : Int)] 27) = W8 at HC8 HBB ⊢
    generalize w8.heap.size = R at HC8 ⊢
    have HI8 := Lib.hid (HI8.out.below HBB.out)
    have HB8 := Lib.hid (HB8.out.trans (HBB.out.mono HB8.out.size))
    clear HBB
    refine (HRF.out _).mono ?_
    rintro r w9 ⟨a3, c3, rfl, hb9, h9⟩
    dsimp only
    generalize hLN : lenP m = LN
    have HM : Hid (RqB w B2 R w9.heap.size (w9.heap.size + 1) (l2, e2) m (e3 : Int) a3 c3 ((w9.alloc (.cells #[.string (bs l2), .int .i64 (e2 : Nat)] 62)).alloc (.cells #[.slice a3 LN c3, .int .i64 (e3 : Int)] 30))) := Lib.hid (by
      have e1 : (w9.alloc (.cells #[.string (bs l2), .int .i64 (e2 : Nat)] 62)).heap.size = w9.heap.size + 1 := by simp
      have hA : Below w9.heap.size w9 ((w9.alloc (.cells #[.string (bs l2), .int .i64 (e2 : Nat)] 62)).alloc (.cells #[.slice a3 LN c3, .int .i64 (e3 : Int)] 30)) := bel_alloc (bel_alloc (Below.refl _ _) _) _
      have hA3 := hb9.trans (hA.mono hb9.size)
      have h8 := HC8.out
      subst hLN
      exact ⟨HI8.out.below hA3, ⟨(hA3.cell (block_lt_of_cell h8.1)).trans h8.1, (hA3.cell (block_lt_of_cell h8.2)).trans h8.2, new_cell e1.symm rfl, new_cell e1.symm rfl⟩, ⟨alloc_cell (new_cell rfl rfl) _, alloc_cell (new_cell rfl rfl) _⟩, h9.out.below hA, HTAB.out.below (HB8.out.trans (hA3.mono HB8.out.size)), HB8.out.trans (hA3.mono HB8.out.size)⟩)
    clear hb9 h9 HRF HI8 HB8 HC8 HTAB
    go_upto_region 12 with (fail)
    generalize (w9.alloc (.cells #[.string (bs l2), .int .i64 (e2 : Nat)] 62)).alloc (.cells #[.slice a3 LN c3, .int .i64 (e3 : Int)] 30) = W10 at HM ⊢
    generalize w9.heap.size + 1 = D2 at HM ⊢
    generalize w9.heap.size = X2 at HM ⊢
    have hz2 := bs_size l2
    subst hLN
    · refine wp_region_c18 (C := fun W => RqB w B2 R X2 D2 (l2, e2) m (e3 : Int) a3 c3 W) (by kernel_rfl) (by kernel_rfl) (HM.out.keep (Below.refl _ _).drew) ?_
      repeat
        (refine wpQuiet_step (fun K hK => ?_)
         go_simp
         first
           | (refine hK _ ?_; clear hK K)
           | (apply Exists.intro
              refine ⟨fun W hW => ?_, hK _ ?_⟩
              (first
                | (go_at_call 26; exact (err_any B2 l2 e2 W hW.into).mono fun r W' h => ⟨h.1, by have h2 := h.2; subst h2; exact hW⟩)
                | (go_at_call 27; exact (len_any B2 l2 e2 W hW.into).mono fun r W' h => ⟨h.1, by have h2 := h.2; subst h2; exact hW⟩)
                | (go_at_call 23; exact (HIS.out _ _ W hW.row hW.tab).mono fun r W' h => ⟨h.1, hW.keep h.2⟩)
                | (have y0 := hW.r.1; have y1 := hW.r.2.1; have y2 := hW.r.2.2.1; have y3 := hW.r.2.2.2; have y6 := hW.x.1; have y7 := hW.x.2; clear hW; go_simp; first | exact ⟨rfl, rfl⟩ | exact rfl | trivial))
              clear hK K))
      refine wpQuiet_nil ?_
      intro W11 hW11
      have HBZ := Lib.hid hW11.bel
      clear hW11
      go_wp2
      go_ret
      exact ⟨rfl, HBZ.out⟩
end Go.Proofs.YtcbadcbnknmdnaaDoor
