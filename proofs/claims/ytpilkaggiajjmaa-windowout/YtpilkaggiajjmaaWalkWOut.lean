/-
  The walk of the law WindowOut.
-/
import Derived.Test.YtpilkaggiajjmaaWinP
namespace Go.Proofs.Ytpilkaggiajjmaa
open Go.RowKit
set_option linter.unusedVariables false

set_option maxRecDepth 100000 in
set_option maxHeartbeats 2000000 in
theorem windowOut_walk (w : World) (first : Nat) (hf : first < 4294967296) (a : Option Addr) (len cap : Nat) (ls : List (List Value)) (wa : ValArg 4 acts13R w a len cap ls) :
    Calls Try.prog 3 #[.int .u32 (first : Int), .slice a len cap] w fun e w' => e = .returned (.bool true) ∧ Below w.heap.size w w' := by
  have HAW := Lib.hid (fun W => awake13_any W)
  obtain ⟨rfl, hlc, hcm, hrow, hall⟩ := wa
  have HROW := Lib.hid hrow
  have HALL := Lib.hid hall
  unfold maxLen at hcm
  have hlm : ls.length ≤ 9223372036854775807 := by omega
  have HBG := Lib.hid (fun W => begin_any first W)
  clear hrow hall hlc hcm
  go_enter Try.func3, Try.ntmps3
  go_wp2_with fail
  refine (HAW.out _).mono ?_
  rintro r w1 ⟨rfl, hb1⟩
  go_wp2_with fail
  refine (HBG.out _).mono ?_
  rintro r w2 ⟨rfl, ho, hb2⟩
  have HO0 := Lib.hid (Ow.start (w := w) hf ho hb1.size (hb1.trans (hb2.mono hb1.size)) 29)
  clear ho hb1 hb2 HAW HBG
  go_wp2
  generalize w2.alloc (.cells #[.int .i64 1000, .slice none 0 0] 29) = W0 at HO0 ⊢
  generalize w2.heap.size = X at HO0 ⊢
  generalize w1.heap.size = b at HO0 ⊢
  go_loopw [7] (fun iv wr => ∃ (k n : Nat) (L : Its) (a1 : Option Addr) (c1 : Nat) (xa : Option Addr) (xc : Nat), k ≤ 120 ∧ iv = .int .i64 k ∧ Hid (1000 ≤ n ∧ n ≤ 1000 + k ∧ OutR n L ∧ Ow w b X (numW (bas first) n) a1 c1 (numL (bas first) L) n xa xc L wr)) (fun iv _ => 120 - (intOf iv).toNat)
  case atStart => exact ⟨0, 1000, [], none, 0, none, 0, by omega, rfl, Lib.hid ⟨by omega, by omega, OutR.none _, HO0.out⟩⟩
  case round =>
    obtain ⟨k, n, L, a1, c1, xa, xc, hk, rfl, HS⟩ := hrel
    by_cases hgo : k < ls.length ∧ k < 120
    · obtain ⟨hlt, h120⟩ := hgo
      obtain ⟨gb, off, rfl, hc⟩ := HROW.out (by omega)
      obtain ⟨k0, k1, k2, k3, hr, wf0, wf1, wf2, hps⟩ := HALL.out ls[k] (List.getElem_mem hlt)
      have c0 := hc k hlt 0 (by decide)
      have c1' := hc k hlt 1 (by decide)
      have c2' := hc k hlt 2 (by decide)
      have c3' := hc k hlt 3 (by decide)
      rw [hr] at c0 c1' c2' c3'
      have hgl : gb < w.heap.size := block_lt_of_cell c0
      have hbel := HS.out.2.2.2.bel
      have d0 : wr.cell? ⟨gb, off + k * 4, none⟩ = some (.int .i64 k0) := (hbel.cell (p := ⟨gb, off + k * 4, none⟩) hgl).trans c0
      have d1 : wr.cell? ⟨gb, off + k * 4 + 1, none⟩ = some (.int .i64 k1) := (hbel.cell (p := ⟨gb, off + k * 4 + 1, none⟩) hgl).trans c1'
      have d2 : wr.cell? ⟨gb, off + k * 4 + 2, none⟩ = some (.int .u32 k2) := (hbel.cell (p := ⟨gb, off + k * 4 + 2, none⟩) hgl).trans c2'
      have d3 : wr.cell? ⟨gb, off + k * 4 + 3, none⟩ = some (.string k3) := (hbel.cell (p := ⟨gb, off + k * 4 + 3, none⟩) hgl).trans c3'
      have hgr : gb < wr.heap.size := block_lt_of_cell d0
      obtain ⟨t, e0, htl⟩ := any_list k3 6
      have HCUT := Lib.hid (fun W => cut_any k3 6 W hps (by decide))
      rw [e0] at HCUT
      obtain ⟨B, rfl, hBB⟩ := nat32' wf2
      have HS1 := Lib.hid (show 1000 ≤ n ∧ n ≤ 1000 + k ∧ OutR n L ∧ Ow w b X (numW (bas first) n) a1 c1 (numL (bas first) L) n xa xc L (wr.alloc (.cells #[.int .i64 k0, .int .i64 k1, .int .u32 (B : Int), .string k3] 31)) from ⟨HS.out.1, HS.out.2.1, HS.out.2.2.1, HS.out.2.2.2.keep (bel_alloc (Below.refl _ _) _)⟩)
      have x0 : (wr.alloc (.cells #[.int .i64 k0, .int .i64 k1, .int .u32 (B : Int), .string k3] 31)).cell? ⟨wr.heap.size, 0, none⟩ = some (.int .i64 k0) := by simp
      have x1 : (wr.alloc (.cells #[.int .i64 k0, .int .i64 k1, .int .u32 (B : Int), .string k3] 31)).cell? ⟨wr.heap.size, 1, none⟩ = some (.int .i64 k1) := by simp
      have x2 : (wr.alloc (.cells #[.int .i64 k0, .int .i64 k1, .int .u32 (B : Int), .string k3] 31)).cell? ⟨wr.heap.size, 2, none⟩ = some (.int .u32 (B : Int)) := by simp
      have HY := Lib.hid (show b < wr.heap.size ∧ X < wr.heap.size from ⟨HS.out.2.2.2.o.lt, HS.out.2.2.2.lt⟩)
      have HX0 := Lib.hid x0
      have HX1 := Lib.hid x1
      have HX2 := Lib.hid x2
      clear x0 x1 x2 c0 c1' c2' c3' hr hc hps e0 wf0 hbel HS
      have hi0 : (0 : Int) ≤ (k : Int) := by omega
      have hi1 : (k : Int) < (ls.length : Int) := by omega
      have hi2 : (k : Int) < 120 := by omega
      go_wp2_with fail
      generalize wr.alloc (.cells #[.int .i64 k0, .int .i64 k1, .int .u32 (B : Int), .string k3] 31) = W1 at HS1 HX0 HX1 HX2 ⊢
      generalize wr.heap.size = Y at HX0 HX1 HX2 HY ⊢
      refine (HCUT.out _).mono ?_
      rintro r w4 ⟨rfl, rfl⟩
      clear d0 d1 d2 d3 hgr HCUT
      have x0 := HX0.out
      have hYl := block_lt_of_cell x0
      simp only at hYl
      go_upto_block 2 with (fail)
      go_cut [46] (fun s46 wx => ∃ (n : Nat) (L : Its) (a1 : Option Addr) (c1 : Nat) (xa : Option Addr) (xc : Nat), s46 = s46 ∧ Hid (1000 ≤ n ∧ n ≤ 1000 + (k + 1) ∧ OutR n L ∧ Ow w b X (numW (bas first) n) a1 c1 (numL (bas first) L) n xa xc L wx))
      case first =>
        obtain ⟨hn1, hn2, hor, how⟩ := HS1.out
        have HOW := Lib.hid how
        have HOR := Lib.hid hor
        have hll := hor.len
        by_cases hk1 : k0 = 1
        · subst hk1
          by_cases hroom : roomR n L
          · have HPU := Lib.hid (push_ok b (numW (bas first) n) a1 c1 (numL (bas first) L) t W1 how.o (by rw [numL_len]; omega) (numL_lt _ _) (room_num hor (by omega) hroom))
            have HRP := Lib.hid (fun W hr => ref13Push_yes xa xc n L t W (by omega) (by omega) hr how.nn hor.lt hroom)
            have HNS : Hid (OutR (n + 1) (L ++ [(n, t)])) := Lib.hid (hor.push t hroom)
            have HL1 : Hid ((L ++ [(n, t)]).length = L.length + 1) := Lib.hid (by simp)
            have HLN : Hid (numL (bas first) L ++ [(numW (bas first) n, t)] = numL (bas first) (L ++ [(n, t)]) ∧ (numW (bas first) n + 1) % 4294967296 = numW (bas first) (n + 1)) := Lib.hid ⟨by simp [numL], numW_succ _ _⟩
            have hnb := num_bas first n
            have HNB := Lib.hid hnb
            generalize hL2 : L ++ [(n, t)] = L2 at HRP HNS HL1 HLN
            have HRP2 := Lib.hid (show ∀ W, RRow W xa L → _ from HRP.out)
            unfold R13Post at HRP2
            rw [HL1.out] at HRP2
            generalize numL (bas first) L = l at HOW HPU HLN
            generalize numW (bas first) n = N at HOW HPU HLN HNB
            clear how hor hroom HS1 hnb hL2 HRP
            go_wp2_with fail
            refine HPU.out.mono ?_
            rintro r w5 ⟨rfl, a5, c5, ho5, hf5, ht5⟩
            have HO5 := Lib.hid (HOW.out.prog ho5 hf5 ht5)
            rw [HLN.out.1, HLN.out.2] at HO5
            clear ho5 hf5 ht5 HPU HOW
            dsimp only
            go_upto_region 13 with (fail)
            have y0 := HO5.out.x0
            have y1 := HO5.out.x1
            have hXl := HO5.out.lt
            go_wp2_with fail
            refine (HRP2.out _ HO5.out.row).mono ?_
            rintro r w6 ⟨xa6, xc6, rfl, hr6⟩
            dsimp only
            have HO6 := Lib.hid (HO5.out.ref (n' := n + 1) (hr6.keep (bel_alloc (Below.refl _ _) (.cells #[.int .i64 ((n : Int) + 1), .slice xa6 (L.length + 1) xc6] 29))) (L.length + 1) HL1.out)
            have HB6 := Lib.hid (HO5.out.keep (hr6.keep (bel_alloc (Below.refl _ _) (.cells #[.int .i64 ((n : Int) + 1), .slice xa6 (L.length + 1) xc6] 29))).bel)
            clear hr6 HRP2 y0 y1 hXl
            go_upto_region 14 with (fail)
            have z0 := HB6.out.x0
            have z1 := HB6.out.x1
            have zf0 := HB6.out.f0
            have zf1 := HB6.out.f1
            have hnb := HNB.out
            have hn0 : (1000 : Int) ≤ (n : Int) := by omega
            have hn3 : (n : Int) ≤ 1120 := by omega
            clear HB6
            go_wp2_with fail
            go_meet
            exact ⟨n + 1, L2, a5, c5, xa6, xc6, rfl, Lib.hid ⟨by omega, by omega, HNS.out, HO6.out⟩⟩
          · obtain ⟨p, l', rfl, hpw⟩ : ∃ p l', L = p :: l' ∧ 32 ≤ n - p.1 := by
              cases L with
              | nil => exact absurd (.inl rfl) hroom
              | cons p l' => exact ⟨p, l', rfl, Classical.byContradiction fun h => hroom (.inr ⟨p, l', rfl, by omega⟩)⟩
            have hl' : l'.length ≤ 32 := by simp only [List.length_cons] at hll; omega
            have HPF := Lib.hid (wpush_full b (numW (bas first) n) a1 c1 (numW (bas first) p.1, p.2) (numL (bas first) l') t W1 how.o (by rw [numL_len]; omega) (numW_lt _ _) (full_num hor (by omega) hpw))
            have HRN := Lib.hid (fun W hr => ref13Push_no xa xc n p l' t W (by omega) (by omega) hr (by have := how.cap; simpa using this) hpw)
            unfold R13Post at HRN
            have HS2 := Lib.hid (show OutR n (p :: l') ∧ n ≤ 1000 + (k + 1) from ⟨hor, by omega⟩)
            generalize hNL : numL (bas first) (p :: l') = l at HOW
            have HNL := Lib.hid hNL
            clear how hor hroom hpw HS1 hNL hll
            go_wp2_with fail
            refine HPF.out.mono ?_
            rintro r w5 ⟨rfl, hb5⟩
            dsimp only
            go_upto_region 13 with (fail)
            have HO5 := Lib.hid (HOW.out.keep hb5)
            clear hb5 HPF HOW
            have y0 := HO5.out.x0
            have y1 := HO5.out.x1
            have hXl := HO5.out.lt
            simp only [List.length_cons] at y1
            go_wp2_with fail
            refine (HRN.out _ HO5.out.row).mono ?_
            rintro r w6 ⟨xa6, xc6, rfl, hr6⟩
            dsimp only
            have HO6 := Lib.hid (HO5.out.ref (n' := n) (hr6.keep (bel_alloc (Below.refl _ _) (.cells #[.int .i64 (n : Int), .slice xa6 (l'.length + 1) xc6] 29))) (l'.length + 1) rfl)
            have HB6 := Lib.hid (HO5.out.keep (hr6.keep (bel_alloc (Below.refl _ _) (.cells #[.int .i64 (n : Int), .slice xa6 (l'.length + 1) xc6] 29))).bel)
            clear hr6 HRN y0 y1 hXl
            go_upto_region 14 with (fail)
            have z0 := HB6.out.x0
            have z1 := HB6.out.x1
            have zf0 := HB6.out.f0
            have zf1 := HB6.out.f1
            have hXl := HB6.out.lt
            clear HB6
            go_wp2_with fail
            go_meet
            rw [← HNL.out] at HO6
            exact ⟨n, p :: l', a1, c1, xa6, xc6, rfl, Lib.hid ⟨hn1, HS2.out.2, HS2.out.1, HO6.out⟩⟩
        · by_cases hk2 : k0 = 2
          · subst hk2
            obtain ⟨d, hd, ed⟩ := andM k1 127 127 rfl (by decide)
            obtain ⟨A0, hLc, hA01, hA02⟩ : ∃ A0 : Nat, (A0 = n ∧ L = [] ∨ ∃ h : 0 < L.length, A0 = L[0].1) ∧ 960 ≤ A0 ∧ A0 ≤ n := by
              cases L with
              | nil => exact ⟨n, .inl ⟨rfl, rfl⟩, by omega, by omega⟩
              | cons p l' => exact ⟨p.1, .inr ⟨by simp, rfl⟩, by have := hor.wide p (by simp); omega, by have := hor.lt p (by simp); omega⟩
            have HLC := Lib.hid hLc
            obtain ⟨A, hA, hA1, hA2⟩ : ∃ A : Nat, (A0 : Int) + ((d : Int) - 40) = (A : Int) ∧ 900 ≤ A ∧ A ≤ 2000 := ⟨A0 + d - 40, by omega, by omega, by omega⟩
            have HA := Lib.hid hA
            have HNB := Lib.hid (num_bas first A)
            have HAC := Lib.hid (fun W h => outAck_two b (bas first) n A B a1 c1 L W h hor (by omega) (by omega) hBB)
            have HRA := Lib.hid (fun W hr => ref13Ack_two xa xc n A B L W (by omega) (by omega) hBB hor hr how.nn how.cap)
            have HRO := Lib.hid (lR_ok (A := A) (B := B) hor)
            have HGB := Lib.hid (show ∀ y ∈ gR n A B L, 900 ≤ y ∧ y ≤ 1200 from fun y hy => by
              obtain ⟨p, hp, rfl⟩ := gR_mem hy
              have := hor.lt p hp; have := hor.wide p hp; omega)
            have hgl := gR_len n A B L
            have HGL := Lib.hid (show (gR n A B L).length ≤ 32 by omega)
            generalize gR n A B L = G at HAC HRA HGB HGL
            generalize lR n A B L = R at HAC HRA HRO
            unfold OAck2 at HAC
            unfold A13Post at HRA
            clear how hor HS1 hLc hA hgl
            have y0 := HOW.out.x0
            have y1 := HOW.out.x1
            have hXl := HOW.out.lt
            go_upto_if 97 with (fail)
            go_cut [14] (fun v14 wx => v14 = .int .i64 (A0 : Int) ∧ wx = W1)
            case first =>
              rcases HLC.out with ⟨hAe, hLe⟩ | ⟨hLp, hAe⟩
              · subst hLe hAe
                go_wp2_with fail
                go_meet
                exact ⟨rfl, rfl⟩
              · obtain ⟨g0, off0, rfl, hg0, e0, -⟩ := HOW.out.row.at hLp
                rw [← hAe] at e0
                simp only [Nat.zero_mul, Nat.add_zero] at e0
                have hpos : decide ((0 : Int) < (L.length : Int)) = true := decide_eq_true (by omega)
                have hpos2 : (0 : Int) < (L.length : Int) := by omega
                clear hAe hLp HLC
                go_wp2_with fail
                go_meet
                exact ⟨rfl, rfl⟩
            case rest =>
              obtain ⟨rfl, rfl⟩ := hcut
              have x1 := HX1.out
              have hA := HA.out
              go_upto_region 22 with (fail)
              clear hA
              have x2 := HX2.out
              have hnb := HNB.out
              have hi90 : (900 : Int) ≤ (A : Int) := by omega
              have hi91 : (A : Int) ≤ 2000 := by omega
              go_wp2_with fail
              refine (HAC.out _ HOW.out.o).mono ?_
              rintro r w5 ⟨ga, gc, a5, c5, rfl, ho5, hg5, hn5, hf5, ht5⟩
              dsimp only
              have HO5 := Lib.hid (HOW.out.prog ho5 hf5 (ht5.mono (fun _ _ e => .inl e)))
              have HG5 := Lib.hid (show VRow 1 w5 ga ((G.map (numW (bas first))).map u32C) ∧ (∀ x, ga = some x → x.block ≠ X) from ⟨hg5, fun x hx e => by have := hn5 x hx; have := HOW.out.lt; omega⟩)
              have HY5 : Hid (w5.cell? ⟨Y, 2, none⟩ = some (.int .u32 (B : Int))) := Lib.hid ((ht5.cell (p := ⟨Y, 2, none⟩) (block_lt_of_cell HX2.out) (fun (e : Y = b) => by have := HY.out.1; omega)).trans HX2.out)
              clear ho5 hg5 hn5 hf5 ht5 HAC x1 x2 hnb y0 y1 hXl hYl x0 HOW HX0 HX1 HX2
              go_upto_region 23 with (fail)
              have y0 := HO5.out.x0
              have y1 := HO5.out.x1
              have hXl := HO5.out.lt
              have x2 := HY5.out
              have hYl := block_lt_of_cell x2
              simp only at hYl
              go_wp2_with fail
              refine (HRA.out _ HO5.out.row).mono ?_
              rintro r w6 ⟨xa6, xc6, ga2, gc2, rfl, hr6, hv6, hn6⟩
              dsimp only
              have hr7 := hr6.keep (bel_alloc (Below.refl _ _) (.cells #[.int .i64 (n : Int), .slice xa6 R.length xc6] 29))
              have ht7 := set2_touch (w6.alloc (.cells #[.int .i64 (n : Int), .slice xa6 R.length xc6] 29)) X (.int .i64 (n : Int)) (.slice xa6 R.length xc6)
              have HO6 := Lib.hid (HO5.out.ref (n' := n) hr7 R.length rfl)
              have HB6 := Lib.hid (HO5.out.keep hr7.bel)
              have HG6 := Lib.hid (show VRow 1 (((w6.alloc (.cells #[.int .i64 (n : Int), .slice xa6 R.length xc6] 29)).setCell ⟨X, 0, none⟩ (.int .i64 (n : Int))).setCell ⟨X, 1, none⟩ (.slice xa6 R.length xc6)) ga ((G.map (numW (bas first))).map u32C) ∧ VRow 1 (((w6.alloc (.cells #[.int .i64 (n : Int), .slice xa6 R.length xc6] 29)).setCell ⟨X, 0, none⟩ (.int .i64 (n : Int))).setCell ⟨X, 1, none⟩ (.slice xa6 R.length xc6)) ga2 (G.map i64C) from ⟨(HG5.out.1.touch (by decide) (num_wide _) (touch_of_below (S := fun _ => False) hr7.bel) (fun _ _ => id)).touch (by decide) (num_wide _) ht7 (fun x hx => HG5.out.2 x hx), (hv6.touch (by decide) (i64_wide _) (touch_of_below (S := fun _ => False) (bel_alloc (Below.refl _ _) _)) (fun _ _ => id)).touch (by decide) (i64_wide _) ht7 (fun x hx e => by have := hn6 x hx; have := HO5.out.lt; omega)⟩)
              clear hr6 hv6 hn6 HRA y0 y1 x2 hXl hYl hr7 ht7 HG5 HY5 HO5
              go_upto_region 24 with (fail)
              have z0 := HB6.out.x0
              have z1 := HB6.out.x1
              have zf0 := HB6.out.f0
              have zf1 := HB6.out.f1
              have hXl := HB6.out.lt
              clear HB6
              go_upto_region 25 with (fail)
              clear z0 z1 zf0 zf1 hXl
              generalize ((w6.alloc (.cells #[.int .i64 (n : Int), .slice xa6 R.length xc6] 29)).setCell ⟨X, 0, none⟩ (.int .i64 (n : Int))).setCell ⟨X, 1, none⟩ (.slice xa6 R.length xc6) = W7 at HO6 HG6 ⊢
              go_wp2_with fail
              go_loopw [135] (fun iv wx => ∃ j : Nat, j ≤ G.length ∧ iv = .int .i64 j ∧ Hid (Ow w b X (numW (bas first) n) a5 c5 (numL (bas first) R) n xa6 xc6 R wx ∧ VRow 1 wx ga ((G.map (numW (bas first))).map u32C) ∧ VRow 1 wx ga2 (G.map i64C))) (fun iv _ => G.length - (intOf iv).toNat)
              case atStart => exact ⟨0, Nat.zero_le _, rfl, Lib.hid ⟨HO6.out, HG6.out.1, HG6.out.2⟩⟩
              case round =>
                obtain ⟨j, hj, rfl, HJ⟩ := hrel
                have hgl := HGL.out
                by_cases hjl : j < G.length
                · obtain ⟨g1, o1, rfl, hg1, q1⟩ := VRow.at1 (f := u32C) (g := fun n => .int .u32 (n : Int)) (fun _ => rfl) HJ.out.2.1 (j := j) (by rw [List.length_map]; exact hjl)
                  obtain ⟨g2, o2, rfl, hg2, q2⟩ := VRow.at1 (f := i64C) (g := fun n => .int .i64 (n : Int)) (fun _ => rfl) HJ.out.2.2 hjl
                  have hyb := HGB.out G[j] (List.getElem_mem hjl)
                  rw [List.getElem_map] at q1
                  have hnb := num_bas first G[j]
                  generalize G[j] = y at q1 q2 hyb hnb
                  generalize numW (bas first) y = Ny at q1 hnb
                  have hw1 : IntKind.i64.wrap ((y : Int) - 1000) = (y : Int) - 1000 := by rw [IntKind.wrap_i64]; omega
                  have hy1 : (900 : Int) ≤ (y : Int) := by omega
                  have hy2 : (y : Int) ≤ 1200 := by omega
                  have hj0 : (0 : Int) ≤ (j : Int) := by omega
                  have hj1 : (j : Int) < (G.length : Int) := by omega
                  have HJD := Lib.hid (fun nq => show Ow w b X (numW (bas first) n) a5 c5 (numL (bas first) R) n xa6 xc6 R (wr.drewN nq) ∧ VRow 1 (wr.drewN nq) (some ⟨g1, o1, none⟩) ((G.map (numW (bas first))).map u32C) ∧ VRow 1 (wr.drewN nq) (some ⟨g2, o2, none⟩) (G.map i64C) from ⟨HJ.out.1.keep (drewN_bel _ nq), HJ.out.2.1.touch (by decide) (num_wide _) (touch_of_below (S := fun _ => False) (drewN_bel _ nq)) (fun _ _ => id), HJ.out.2.2.touch (by decide) (i64_wide _) (touch_of_below (S := fun _ => False) (drewN_bel _ nq)) (fun _ _ => id)⟩)
                  go_upto_region 30 with (fail)
                  go_quiet (fail)
                  go_wp2
                  go_roundw
                  case rel => exact ⟨j + 1, by omega, by go_num, Lib.hid (HJD.out _)⟩
                  case measure => simp [intOf] <;> omega
                · obtain rfl : j = G.length := by omega
                  have HF := Lib.hid HJ.out.1
                  clear HJ HO6 HG6
                  go_wp2_with fail
                  go_meet
                  exact ⟨n, R, a5, c5, xa6, xc6, rfl, Lib.hid ⟨hn1, by omega, HRO.out, HF.out⟩⟩
          · have hb1 : (k0 == 1) = false := by rw [beq_eq_false_iff_ne]; exact hk1
            have hb2 : (k0 == 2) = false := by rw [beq_eq_false_iff_ne]; exact hk2
            clear hk1 hk2
            go_wp2_with fail
            go_meet
            exact ⟨n, L, a1, c1, xa, xc, rfl, Lib.hid ⟨hn1, by omega, HOR.out, HOW.out⟩⟩
      case rest =>
        obtain ⟨n, L, a1, c1, xa, xc, -, HS⟩ := hcut
        have HALL := Lib.hid (outAll_any b (numW (bas first) n) a1 c1 (numL (bas first) L) wc HS.out.2.2.2.o (by rw [numL_len]; have := HS.out.2.2.1.len; omega))
        unfold AllO at HALL
        simp only [numL_len] at HALL
        go_wp2_with fail
        refine HALL.out.mono ?_
        rintro r w9 ⟨a9, c9, rfl, hrow9, hb9⟩
        have HS9 := Lib.hid (show (1000 ≤ n ∧ n ≤ 1000 + (k + 1) ∧ OutR n L ∧ Ow w b X (numW (bas first) n) a1 c1 (numL (bas first) L) n xa xc L w9) ∧ OwnV 52 2 0 a9 c9 ((numL (bas first) L).map itCells) w9 from ⟨⟨HS.out.1, HS.out.2.1, HS.out.2.2.1, HS.out.2.2.2.keep hb9⟩, hrow9.1, fun _ _ => Nat.zero_le _⟩)
        clear hrow9 hb9 HALL HS
        obtain ⟨⟨hn1, hn2, hor, how⟩, -⟩ := HS9.out
        have hll := hor.len
        have HLEN := Lib.hid (fun q => outLen_any b (numW (bas first) n) a1 c1 (numL (bas first) L) (w9.drewN q) ((how.keep (drewN_bel w9 q)).o))
        have HNX := Lib.hid (fun q => outNext_any b (numW (bas first) n) a1 c1 (numL (bas first) L) (w9.drewN q) ((how.keep (drewN_bel w9 q)).o))
        simp only [numL_len] at HLEN
        have HHOW := Lib.hid how
        clear how hor
        go_upto_region 34 with (fail)
        have y0 := HHOW.out.x0
        have y1 := HHOW.out.x1
        have hXl := HHOW.out.lt
        have hnb := num_bas first n
        have hw1 : IntKind.i64.wrap ((n : Int) - 1000) = (n : Int) - 1000 := by rw [IntKind.wrap_i64]; omega
        have hl32 : decide ((32 : Int) < (L.length : Int)) = false := by simp; omega
        generalize hNN : numW (bas first) n = N at HNX hnb HHOW HS9
        have HNN := Lib.hid hNN
        clear hNN
        go_quiet ((first
          | (go_at_call 22; exact Calls.quiet_of_same ((HLEN.out _).mono fun _ _ h => ⟨h.1, h.2.symm⟩))
          | (go_at_call 23; exact Calls.quiet_of_same ((HNX.out _).mono fun _ _ h => ⟨h.1, h.2.symm⟩))))
        go_upto_region 36 with (fail)
        clear y0 y1 hXl hnb hw1 hl32
        have HS10 := Lib.hid (show Ow w b X N a1 c1 (numL (bas first) L) n xa xc L (w9.drewN nq) ∧ OwnV 52 2 0 a9 c9 ((numL (bas first) L).map itCells) (w9.drewN nq) from ⟨HHOW.out.keep (drewN_bel w9 nq), HS9.out.2.touch (touch_of_below (S := fun _ => False) (drewN_bel w9 nq)) (fun _ _ => id)⟩)
        have HOR := Lib.hid HS9.out.1.2.2.1
        clear HLEN HNX HHOW
        generalize w9.drewN nq = W10 at HS10 ⊢
        have y1 := HS10.out.1.x1
        have hXl := HS10.out.1.lt
        go_wp2_with fail
        go_loopw [187] (fun iv wx => ∃ j : Nat, j ≤ L.length ∧ iv = .int .i64 j ∧ Hid (Ow w b X N a1 c1 (numL (bas first) L) n xa xc L wx ∧ OwnV 52 2 0 a9 c9 ((numL (bas first) L).map itCells) wx)) (fun iv _ => L.length - (intOf iv).toNat)
        case atStart => exact ⟨0, Nat.zero_le _, rfl, HS10⟩
        case round =>
          obtain ⟨j, hj, rfl, HJ⟩ := hrel
          clear y1 hXl
          by_cases hjl : j < L.length
          · obtain ⟨g1, rfl, hg1, hcells⟩ := cell_it HJ.out.2 (by rw [numL_len]; omega)
            obtain ⟨q1, q2⟩ := hcells j (by rw [numL_len]; exact hjl)
            obtain ⟨g2, o2, rfl, hg2, d0, d1⟩ := HJ.out.1.row.at hjl
            simp only [numL, List.getElem_map] at q1 q2
            have hyl := HOR.out.lt L[j] (List.getElem_mem hjl)
            have hyw := HOR.out.wide L[j] (List.getElem_mem hjl)
            have hnb := num_bas first L[j].1
            generalize L[j] = y at q1 q2 d0 d1 hyl hyw hnb
            obtain ⟨yn, yt⟩ := y
            simp only at q1 q2 d0 d1 hyl hyw hnb
            generalize numW (bas first) yn = Ny at q1 hnb
            have hw1 : IntKind.i64.wrap ((yn : Int) - 1000) = (yn : Int) - 1000 := by rw [IntKind.wrap_i64]; omega
            have hj0 : (0 : Int) ≤ (j : Int) := by omega
            have hj1 : (j : Int) < (L.length : Int) := by omega
            have hA : Below wr.heap.size wr (wr.alloc (.cells #[.int .i64 (yn : Int), .string (bs yt)] 39)) := bel_alloc (Below.refl _ _) _
            have HJD := Lib.hid (fun nq => show Ow w b X N a1 c1 (numL (bas first) L) n (some ⟨g2, o2, none⟩) xc L ((wr.alloc (.cells #[.int .i64 (yn : Int), .string (bs yt)] 39)).drewN nq) ∧ OwnV 52 2 0 (some ⟨g1, 0, none⟩) c9 ((numL (bas first) L).map itCells) ((wr.alloc (.cells #[.int .i64 (yn : Int), .string (bs yt)] 39)).drewN nq) from ⟨(HJ.out.1.keep hA).keep (drewN_bel _ nq), (HJ.out.2.touch (touch_of_below (S := fun _ => False) hA) (fun _ _ => id)).touch (touch_of_below (S := fun _ => False) (drewN_bel _ nq)) (fun _ _ => id)⟩)
            clear hA hcells
            go_upto_region 39 with (fail)
            go_quiet (fail)
            go_wp2
            go_roundw
            case rel => exact ⟨j + 1, by omega, by go_num, Lib.hid (HJD.out _)⟩
            case measure => simp [intOf] <;> omega
          · obtain rfl : j = L.length := by omega
            have HF := Lib.hid HJ.out.1
            clear HJ HS10
            go_wp2_with fail
            go_roundw
            case rel => exact ⟨k + 1, n, L, a1, c1, xa, xc, by omega, by go_num, Lib.hid ⟨hn1, hn2, HOR.out, by rw [HNN.out]; exact HF.out⟩⟩
            case measure => simp [intOf] <;> omega
    · have hend : ((ls.length : Int) ≤ (k : Int)) ∨ ((k : Int) < (ls.length : Int) ∧ (120 : Int) ≤ (k : Int)) := by omega
      have HB := Lib.hid HS.out.2.2.2.bel
      clear HS hgo
      rcases hend with hend | ⟨hend, hend2⟩
      all_goals
        go_wp2
        go_ret
        exact ⟨rfl, HB.out⟩
end Go.Proofs.Ytpilkaggiajjmaa
