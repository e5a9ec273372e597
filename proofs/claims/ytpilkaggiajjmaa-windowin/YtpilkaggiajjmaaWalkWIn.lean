/-
  The walk of the law WindowIn.
-/
import Derived.Test.YtpilkaggiajjmaaWinQ
import Derived.Test.YtpilkaggiajjmaaWalkFAll
import Derived.Test.YtpilkaggiajjmaaFrag8
import Derived.Test.YtpilkaggiajjmaaVals
namespace Go.Proofs.Ytpilkaggiajjmaa
open Go.RowKit
set_option linter.unusedVariables false

theorem keep4d {W w1 : World} {p0 p1 p2 p3 : Addr} {v0 v1 v2 v3 : Value} (hb : Below W.heap.size W w1) (h : (W.cell? p0 = some v0 ∧ W.cell? p1 = some v1) ∧ (W.cell? p2 = some v2 ∧ W.cell? p3 = some v3)) : (w1.cell? p0 = some v0 ∧ w1.cell? p1 = some v1) ∧ (w1.cell? p2 = some v2 ∧ w1.cell? p3 = some v3) := by
  have f : ∀ {p : Addr} {v : Value}, W.cell? p = some v → w1.cell? p = some v := fun h => (hb.cell (block_lt_of_cell h)).trans h
  exact ⟨⟨f h.1.1, f h.1.2⟩, f h.2.1, f h.2.2⟩
theorem VRow.at1s {w : World} {a : Option Addr} {ms : List (List UInt8)} (h : VRow 1 w a (ms.map strCells1)) {j : Nat} (hj : j < ms.length) : ∃ b off, a = some ⟨b, off, none⟩ ∧ b < w.heap.size ∧ w.cell? ⟨b, off + j, none⟩ = some (.string (bs ms[j])) := by
  have hlen : (ms.map strCells1).length = ms.length := by simp
  obtain ⟨b, off, e1, hc⟩ := h (by rw [hlen]; omega)
  have h1 := hc j (by rw [hlen]; exact hj) 0 (by decide)
  rw [Nat.mul_one, Nat.add_zero] at h1
  have h2 : w.cell? ⟨b, off + j, none⟩ = some (.string (bs ms[j])) := by rw [h1]; simp [strCells1]
  exact ⟨b, off, e1, block_lt_of_cell h2, h2⟩
theorem goR_len : ∀ (f n : Nat) (L : Its), (goR f n L).2.2.length ≤ f := by
  intro f
  induction f with
  | zero => intro n L; simp [goR]
  | succ f ih =>
    intro n L
    cases hf : findW L n with
    | none => rw [goR_none hf]; simp
    | some t =>
      rw [goR_some hf]
      have := ih (n + 1) (L.filter (fun p => p.1 != n))
      simp only [List.length_cons]; omega
/-- One thing comes to both: the same numbers, the same texts, the same error. -/
theorem both_put (F n A : Nat) (L : Its) (t : List UInt8) (hi : InR n L) (h1 : n < A + 1000) (h2 : A < n + 1000) : ∃ (n' : Nat) (L' : Its) (out : List (List UInt8)) (e : Nat), putW ⟨numW F n, numL F L⟩ (numW F A) t = (⟨numW F n', numL F L'⟩, out, e) ∧ putR n L A t = ((n', L', out), e) ∧ InR n' L' ∧ n ≤ n' ∧ n' + L'.length ≤ n + L.length + 1 ∧ out.length ≤ 100 := by
  obtain ⟨g1, g2, g3⟩ := putR_ok n A L t hi
  refine ⟨_, _, _, _, put_num F n A L t hi h1 h2, rfl, g1, g2, g3, ?_⟩
  have hl := hi.len
  have hg := goR_len (L.length + 2) n (L ++ [(A, t)])
  unfold putR
  split
  · simp
  · split
    · simp
    · split
      · simp
      · simp only; omega
set_option maxRecDepth 100000 in
set_option maxHeartbeats 2000000 in
theorem windowIn_walk (w : World) (first : Nat) (hf : first < 4294967296) (a : Option Addr) (len cap : Nat) (ls : List (List Value)) (wa : ValArg 4 acts13R w a len cap ls) :
    Calls Try.prog 4 #[.int .u32 (first : Int), .slice a len cap] w fun e w' => e = .returned (.bool true) ∧ Below w.heap.size w w' := by
  have HAW := Lib.hid (fun W => awake13_any W)
  obtain ⟨rfl, hlc, hcm, hrow, hall⟩ := wa
  have HROW := Lib.hid hrow
  have HALL := Lib.hid hall
  unfold maxLen at hcm
  have hlm : ls.length ≤ 9223372036854775807 := by omega
  have HEX := Lib.hid (fun W => expect_any first hf W)
  clear hrow hall hlc hcm
  go_enter Try.func4, Try.ntmps4
  go_wp2_with fail
  refine (HAW.out _).mono ?_
  rintro r w1 ⟨rfl, hb1⟩
  go_wp2_with fail
  refine (HEX.out _).mono ?_
  rintro r w2 ⟨rfl, ho, hb2⟩
  have HO0 := Lib.hid (Iw.start (w := w) hf ho hb1.size (hb1.trans (hb2.mono hb1.size)) 56)
  clear ho hb1 hb2 HAW HEX
  go_wp2
  generalize w2.alloc (.cells #[.int .i64 1000, .slice none 0 0] 56) = W0 at HO0 ⊢
  generalize w2.heap.size = X at HO0 ⊢
  generalize w1.heap.size = b at HO0 ⊢
  go_loopw [7] (fun iv wr => ∃ (k n : Nat) (L : Its) (mo : Option Nat) (xa : Option Addr) (xc : Nat), k ≤ 120 ∧ iv = .int .i64 k ∧ Hid (1000 ≤ n ∧ n + L.length ≤ 1000 + k ∧ InR n L ∧ Iw w b X (bas first) mo n xa xc L wr)) (fun iv _ => 120 - (intOf iv).toNat)
  case atStart => exact ⟨0, 1000, [], none, none, 0, by omega, rfl, Lib.hid ⟨by omega, by simp, InR.none _, HO0.out⟩⟩
  case round =>
    obtain ⟨k, n, L, mo, xa, xc, hk, rfl, HS⟩ := hrel
    by_cases hgo : k < ls.length ∧ k < 120
    · obtain ⟨hlt, h120⟩ := hgo
      obtain ⟨gb, off, rfl, hc⟩ := HROW.out (by omega)
      obtain ⟨k0, k1, k2, k3, hr, wf0, wf1, wf2, hps⟩ := HALL.out ls[k] (List.getElem_mem hlt)
      have c1' := hc k hlt 1 (by decide)
      have c3' := hc k hlt 3 (by decide)
      rw [hr] at c1' c3'
      have hgl : gb < w.heap.size := block_lt_of_cell c1'
      obtain ⟨hn1, hn2, hinr, hiw⟩ := HS.out
      have d1 : wr.cell? ⟨gb, off + k * 4 + 1, none⟩ = some (.int .i64 k1) := (hiw.bel.cell (p := ⟨gb, off + k * 4 + 1, none⟩) hgl).trans c1'
      have d3 : wr.cell? ⟨gb, off + k * 4 + 3, none⟩ = some (.string k3) := (hiw.bel.cell (p := ⟨gb, off + k * 4 + 3, none⟩) hgl).trans c3'
      have hgr : gb < wr.heap.size := block_lt_of_cell d1
      obtain ⟨t, e0, htl⟩ := any_list k3 6
      have HCUT := Lib.hid (fun W => cut_any k3 6 W hps (by decide))
      rw [e0] at HCUT
      obtain ⟨d, hd, ed⟩ := andM k1 127 127 rfl (by decide)
      obtain ⟨A, hA, hA1, hA2⟩ : ∃ A : Nat, (n : Int) + (d : Int) - 40 = (A : Int) ∧ n ≤ A + 40 ∧ A ≤ n + 87 := ⟨n + d - 40, by omega, by omega, by omega⟩
      have hA3 : IntKind.i64.wrap ((n : Int) + (d : Int) - 40) = (A : Int) := by rw [IntKind.wrap_i64]; omega
      have hA4 : IntKind.i64.wrap ((n : Int) + (d : Int)) = (n : Int) + (d : Int) := by rw [IntKind.wrap_i64]; omega
      have HNB := Lib.hid (num_bas first A)
      have HIW := Lib.hid hiw
      have HINR := Lib.hid hinr
      have y0 := hiw.x0
      have hXl := hiw.lt
      have hi0 : (0 : Int) ≤ (k : Int) := by omega
      have hi1 : (k : Int) < (ls.length : Int) := by omega
      have hi2 : (k : Int) < 120 := by omega
      clear hc hr c1' c3' wf0 wf1 wf2 hps e0 hiw hinr HS
      go_upto_region 8 with (fail)
      go_quiet (fail)
      clear hA3 hA4 ed hA y0 hXl
      have HIW1 := Lib.hid (HIW.out.keep (drewN_bel wr nq))
      have e3 : (wr.drewN nq).cell? ⟨gb, off + k * 4 + 3, none⟩ = some (.string k3) := d3
      have hgr3 : gb < (wr.drewN nq).heap.size := hgr
      clear d1 d3 hgr HIW
      generalize wr.drewN nq = W1 at HIW1 e3 hgr3 ⊢
      go_wp2_with fail
      refine (HCUT.out _).mono ?_
      rintro r w4 ⟨rfl, rfl⟩
      clear HCUT e3 hgr3
      obtain ⟨n', L', out, e, hpw, hpr, hir', hn3, hn4, hout⟩ := both_put (bas first) n A L t HINR.out (by omega) (by omega)
      have HPUT := Lib.hid (inPut_any b mo ⟨numW (bas first) n, numL (bas first) L⟩ (numW (bas first) A) t W1 HIW1.out.i (numW_lt _ _) (by rw [numL_len]; have := HINR.out.len; omega))
      rw [hpw] at HPUT
      unfold InPost itV at HPUT
      simp only at HPUT
      have HRP := Lib.hid (fun W hr ha => ref13Put_any xa xc n A L t W (by omega) (by omega) HINR.out hr HIW1.out.nn HIW1.out.cap ha)
      rw [hpr] at HRP
      unfold P13 at HRP
      simp only at HRP
      have HIR := Lib.hid hir'
      clear hpw hpr hir'
      have hnb := HNB.out
      have hi90 : (900 : Int) ≤ (A : Int) := by omega
      have hi91 : (A : Int) ≤ 2000 := by omega
      generalize numW (bas first) A = NA at HPUT hnb
      go_wp2_with fail
      refine HPUT.out.mono ?_
      rintro r w5 ⟨ga, gc, mo5, rfl, hw5, hf5, hg5, ht5⟩
      dsimp only
      have HI5 := Lib.hid (HIW1.out.put hw5 hf5 ht5)
      have HG5 := Lib.hid (show VRow 1 w5 ga (out.map strCells1) ∧ (∀ x, ga = some x → x.block ≠ X) from ⟨hg5.row (str_wide out), fun x hx e => by have := hg5.2 x hx; have := HIW1.out.lt; omega⟩)
      clear hw5 hf5 hg5 ht5 HPUT HNB hnb HIW1
      go_upto_region 11 with (fail)
      have y0 := HI5.out.x0
      have y1 := HI5.out.x1
      have hXl := HI5.out.lt
      go_wp2_with fail
      refine (HRP.out _ HI5.out.row (fun x hx => (HI5.out.hx x hx).2.1)).mono ?_
      rintro r w6 ⟨xa6, xc6, ga2, gc2, rfl, hr6, hv6, hn6⟩
      dsimp only
      have hr7 := hr6.keep (bel_alloc (Below.refl _ _) (.cells #[.int .i64 (n' : Int), .slice xa6 L'.length xc6] 56))
      have ht7 := set2_touch (w6.alloc (.cells #[.int .i64 (n' : Int), .slice xa6 L'.length xc6] 56)) X (.int .i64 (n' : Int)) (.slice xa6 L'.length xc6)
      have HI6 := Lib.hid (HI5.out.ref hr7 L'.length rfl)
      have HB6 := Lib.hid (HI5.out.keep hr7.bel)
      have HG6 := Lib.hid (show VRow 1 (((w6.alloc (.cells #[.int .i64 (n' : Int), .slice xa6 L'.length xc6] 56)).setCell ⟨X, 0, none⟩ (.int .i64 (n' : Int))).setCell ⟨X, 1, none⟩ (.slice xa6 L'.length xc6)) ga (out.map strCells1) ∧ VRow 1 (((w6.alloc (.cells #[.int .i64 (n' : Int), .slice xa6 L'.length xc6] 56)).setCell ⟨X, 0, none⟩ (.int .i64 (n' : Int))).setCell ⟨X, 1, none⟩ (.slice xa6 L'.length xc6)) ga2 (out.map strCells1) from ⟨(HG5.out.1.touch (by decide) (str_wide _) (touch_of_below (S := fun _ => False) hr7.bel) (fun _ _ => id)).touch (by decide) (str_wide _) ht7 (fun x hx => HG5.out.2 x hx), (hv6.touch (by decide) (str_wide _) (touch_of_below (S := fun _ => False) (bel_alloc (Below.refl _ _) _)) (fun _ _ => id)).touch (by decide) (str_wide _) ht7 (fun x hx (e : x.block = X) => by have := hn6 x hx; have := HI5.out.lt; omega)⟩)
      clear hr6 hv6 hn6 HRP y0 y1 hXl hr7 ht7 HG5 HI5
      go_upto_region 12 with (fail)
      have z0 := HB6.out.x0
      have z1 := HB6.out.x1
      have zf0 := HB6.out.f0
      have zf1 := HB6.out.f1
      have hXl := HB6.out.lt
      clear HB6
      go_upto_region 13 with (fail)
      clear z0 z1 zf0 zf1 hXl
      generalize ((w6.alloc (.cells #[.int .i64 (n' : Int), .slice xa6 L'.length xc6] 56)).setCell ⟨X, 0, none⟩ (.int .i64 (n' : Int))).setCell ⟨X, 1, none⟩ (.slice xa6 L'.length xc6) = W7 at HI6 HG6 ⊢
      have HACK := Lib.hid (inAck_any b mo5 ⟨numW (bas first) n', numL (bas first) L'⟩ W7 HI6.out.i HIR.out.ok)
      unfold AckPost at HACK
      simp only at HACK
      go_wp2_with fail
      refine HACK.out.mono ?_
      rintro r w8 ⟨⟨B, rfl, hB, hbits⟩, hb8⟩
      dsimp only
      have hbe := bitsR_eq hB (HIR.out.bits hbits) HIR.out.hi
      have HLEN := Lib.hid (fun W h => inLen_any b mo5 ⟨numW (bas first) n', numL (bas first) L'⟩ W h)
      simp only [numL_len] at HLEN
      have HBI := Lib.hid (fun W hr => bits13_any xa6 xc6 n' L' W (by have := HIR.out.len; omega) (by omega) hr)
      unfold Bits13 at HBI
      rw [hbe] at HBI
      have HA8 : Hid (Below W7.heap.size W7 (w8.alloc (.cells #[.int .u32 (numW (bas first) n' : Int), .int .u32 (B : Int)] 43))) := Lib.hid (bel_alloc hb8 _)
      have HI8 := Lib.hid (HI6.out.keep HA8.out)
      have HG8 := Lib.hid (show VRow 1 (w8.alloc (.cells #[.int .u32 (numW (bas first) n' : Int), .int .u32 (B : Int)] 43)) ga (out.map strCells1) ∧ VRow 1 (w8.alloc (.cells #[.int .u32 (numW (bas first) n' : Int), .int .u32 (B : Int)] 43)) ga2 (out.map strCells1) from ⟨HG6.out.1.touch (by decide) (str_wide _) (touch_of_below (S := fun _ => False) HA8.out) (fun _ _ => id), HG6.out.2.touch (by decide) (str_wide _) (touch_of_below (S := fun _ => False) HA8.out) (fun _ _ => id)⟩)
      have u0 : (w8.alloc (.cells #[.int .u32 (numW (bas first) n' : Int), .int .u32 (B : Int)] 43)).cell? ⟨w8.heap.size, 0, none⟩ = some (.int .u32 (numW (bas first) n' : Int)) := by simp
      have u1 : (w8.alloc (.cells #[.int .u32 (numW (bas first) n' : Int), .int .u32 (B : Int)] 43)).cell? ⟨w8.heap.size, 1, none⟩ = some (.int .u32 (B : Int)) := by simp
      have HU := Lib.hid (And.intro u0 u1)
      clear hb8 hbits hbe HACK HI6 HG6 HA8 u0 u1
      go_upto_region 14 with (fail)
      have hnb := num_bas first n'
      have hw1 : IntKind.i64.wrap ((n' : Int) - 1000) = (n' : Int) - 1000 := by rw [IntKind.wrap_i64]; omega
      have hw2 : IntKind.u32.wrap ((n' : Int) - 1000) = ((n' : Int) - 1000) % 4294967296 := IntKind.wrap_u32 _
      have hw3 : IntKind.u32.wrap ((first : Int) + ((n' : Int) - 1000) % 4294967296) = (numW (bas first) n' : Int) := by rw [IntKind.wrap_u32]; exact hnb
      have hl32 : decide ((32 : Int) < (L'.length : Int)) = false := by have := HIR.out.len; simp; omega
      have hl33 : (L'.length : Int) ≤ 32 := by have := HIR.out.len; omega
      generalize hNN : numW (bas first) n' = N at hnb hw3 HG8 HU HI8 ⊢
      have HNN := Lib.hid hNN
      clear hNN
      generalize w8.alloc (.cells #[.int .u32 (N : Int), .int .u32 (B : Int)] 43) = W9 at HI8 HG8 HU ⊢
      generalize w8.heap.size = Z at HU ⊢
      have x0 := HI8.out.x0
      have x1 := HI8.out.x1
      obtain ⟨u0, u1⟩ := HU.out
      have hXl := HI8.out.lt
      have hZl := block_lt_of_cell u0
      simp only at hZl
      have HI8d := Lib.hid (HI8.out.keep (Below.refl W9.heap.size W9).drew)
      go_region_held3 (fun w' => (w'.cell? ⟨X, 0, none⟩ = some (.int .i64 (n' : Int)) ∧ w'.cell? ⟨X, 1, none⟩ = some (.slice xa6 L'.length xc6)) ∧ (w'.cell? ⟨Z, 0, none⟩ = some (.int .u32 (N : Int)) ∧ w'.cell? ⟨Z, 1, none⟩ = some (.int .u32 (B : Int))))
        (first | (refine keep4d hb10 ?_; assumption) | assumption | exact ⟨⟨x0, x1⟩, u0, u1⟩)
        (first
          | (go_at_call 28; refine (HLEN.out _ HI8d.out.i).mono ?_; rintro e w' ⟨rfl, rfl⟩)
          | (go_at_call 29; refine (HBI.out _ HI8d.out.row).mono ?_; rintro e w10 ⟨rfl, hb10⟩; have HB10 := Lib.hid hb10))
      all_goals
        have HI10 := Lib.hid (HI8d.out.keep hb10)
        have HG10 := Lib.hid (show VRow 1 w10 ga (out.map strCells1) ∧ VRow 1 w10 ga2 (out.map strCells1) from ⟨(HG8.out.1.touch (by decide) (str_wide _) (touch_of_below (S := fun _ => False) (Below.refl W9.heap.size W9).drew) (fun _ _ => id)).touch (by decide) (str_wide _) (touch_of_below (S := fun _ => False) hb10) (fun _ _ => id), (HG8.out.2.touch (by decide) (str_wide _) (touch_of_below (S := fun _ => False) (Below.refl W9.heap.size W9).drew) (fun _ _ => id)).touch (by decide) (str_wide _) (touch_of_below (S := fun _ => False) hb10) (fun _ _ => id)⟩)
        have hob : (out.length : Int) ≤ 100 := by omega
        clear hb10 HB10 HI8 HI8d HG8 HU HLEN HBI x0 x1 u0 u1 hXl hZl hnb hw1 hw2 hw3 hl32 hl33
        go_wp2_with fail
        go_loopw [115] (fun iv wx => ∃ j : Nat, j ≤ out.length ∧ iv = .int .i64 j ∧ Hid (Iw w b X (bas first) mo5 n' xa6 xc6 L' wx ∧ VRow 1 wx ga (out.map strCells1) ∧ VRow 1 wx ga2 (out.map strCells1))) (fun iv _ => out.length - (intOf iv).toNat)
        case atStart => exact ⟨0, Nat.zero_le _, rfl, Lib.hid ⟨HI10.out, HG10.out.1, HG10.out.2⟩⟩
        case round =>
          obtain ⟨j, hj, rfl, HJ⟩ := hrel
          by_cases hjl : j < out.length
          · obtain ⟨g1, o1, rfl, hg1, q1⟩ := HJ.out.2.1.at1s hjl
            obtain ⟨g2, o2, rfl, hg2, q2⟩ := HJ.out.2.2.at1s hjl
            generalize out[j] = y at q1 q2
            have hj0 : (0 : Int) ≤ (j : Int) := by omega
            have hj1 : (j : Int) < (out.length : Int) := by omega
            have HJD := Lib.hid (fun nq => show Iw w b X (bas first) mo5 n' xa6 xc6 L' (wr.drewN nq) ∧ VRow 1 (wr.drewN nq) (some ⟨g1, o1, none⟩) (out.map strCells1) ∧ VRow 1 (wr.drewN nq) (some ⟨g2, o2, none⟩) (out.map strCells1) from ⟨HJ.out.1.keep (drewN_bel _ nq), HJ.out.2.1.touch (by decide) (str_wide _) (touch_of_below (S := fun _ => False) (drewN_bel _ nq)) (fun _ _ => id), HJ.out.2.2.touch (by decide) (str_wide _) (touch_of_below (S := fun _ => False) (drewN_bel _ nq)) (fun _ _ => id)⟩)
            go_upto_region 19 with (fail)
            go_quiet (fail)
            go_wp2
            go_roundw
            case rel => exact ⟨j + 1, by omega, by go_num, Lib.hid (HJD.out _)⟩
            case measure => simp [intOf] <;> omega
          · obtain rfl : j = out.length := by omega
            have HF := Lib.hid HJ.out.1
            clear HJ HI10 HG10
            go_wp2_with fail
            go_roundw
            case rel => exact ⟨k + 1, n', L', mo5, xa6, xc6, by omega, by go_num, Lib.hid ⟨by omega, by omega, HIR.out, HF.out⟩⟩
            case measure => simp [intOf] <;> omega
    · have hend : ((ls.length : Int) ≤ (k : Int)) ∨ ((k : Int) < (ls.length : Int) ∧ (120 : Int) ≤ (k : Int)) := by omega
      have HB := Lib.hid HS.out.2.2.2.bel
      clear HS hgo
      rcases hend with hend | ⟨hend, hend2⟩
      all_goals
        go_wp2
        go_ret
        exact ⟨rfl, HB.out⟩
end Go.Proofs.Ytpilkaggiajjmaa
