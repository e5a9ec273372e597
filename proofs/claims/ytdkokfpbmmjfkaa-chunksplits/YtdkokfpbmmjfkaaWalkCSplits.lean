/-
  The walk of the law ChunkSplits.
-/
import Derived.Test.YtdkokfpbmmjfkaaChunk5
import Derived.Test.YtdkokfpbmmjfkaaOrdTidy
namespace Go.Proofs.Ytdkokfpbmmjfkaa
open Go.RowKit
set_option linter.unusedVariables false

theorem pcAt_ok (t : Int) (l : List UInt8) (k : Nat) (h0 : 0 ≤ t) (h1 : t ≤ 65535) (hl : l.length ≤ 65536) (hk : k < cntN l.length) : checkP (pcAt t l k) = 0 := by
  have h100 : 100 * k < l.length := by unfold cntN at hk; omega
  unfold checkP pcAt
  simp only [List.length_take, List.length_drop]
  rw [if_neg (by omega), if_neg (by omega), if_neg]
  rw [countP_nat]
  omega
theorem told11_any (p : Pc) (w : World) : Calls Try.prog 31 #[pcV p] w fun r w' => r = .returned (pcV p) ∧ Below w.heap.size w w' := by
  obtain ⟨p0, p1, p2, p3, p4⟩ := p
  unfold pcV
  simp only
  have HB := Lib.hid (show Below w.heap.size w ((w.alloc (.cells #[.int .i64 p0, .int .i64 p1, .int .u64 (p2 : Int), .int .i64 p3, .string (bs p4)] 64)).alloc (.cells #[.int .i64 p0, .int .i64 p1, .int .u64 (p2 : Int), .int .i64 p3, .string (bs p4)] 71)) from bel_alloc (bel_alloc (Below.refl _ _) _) _)
  go_enter Try.func31, Try.ntmps31
  go_wp2
  exact bodyPost_ret (v := .agg #[.int .i64 p0, .int .i64 p1, .int .u64 (p2 : Int), .int .i64 p3, .string (bs p4)]) (by simp [results, Try.results31, go_sem]) rfl ⟨rfl, HB.out⟩
theorem rpc_same (a b c d : Int) (t : ByteArray) (w : World) : (binOp .neq 71 (.agg #[.int .i64 a, .int .i64 b, .int .u64 c, .int .i64 d, .string t]) (.agg #[.int .i64 a, .int .i64 b, .int .u64 c, .int .i64 d, .string t])).run Try.prog w = .ok (.bool false) w := by
  have := str_eq t
  go_simp
theorem head_same (a b c : Int) (w : World) : (binOp .neq 103 (.agg #[.int .i64 a, .int .i64 b, .int .u64 c]) (.agg #[.int .i64 a, .int .i64 b, .int .u64 c])).run Try.prog w = .ok (.bool false) w := by
  rw [head_neq]; simp
/-- Both rows of pieces. -/
structure SsMem (w : World) (t : Int) (l : List UInt8) (a a2 : Option Addr) (c c2 : Nat) (wr : World) : Prop where
  r1 : OwnV 64 5 w.heap.size a c ((splitL t l).map pcCells) wr
  r2 : OwnV 71 5 w.heap.size a2 c2 ((splitL t l).map pcCells) wr
  bel : Below w.heap.size w wr
theorem SsMem.keep {w : World} {t : Int} {l : List UInt8} {a a2 : Option Addr} {c c2 : Nat} {wr w' : World} (h : SsMem w t l a a2 c c2 wr) (hb : Below wr.heap.size wr w') : SsMem w t l a a2 c c2 w' :=
  ⟨h.r1.touch (touch_of_below (S := fun _ => False) hb) (fun _ _ => id), h.r2.touch (touch_of_below (S := fun _ => False) hb) (fun _ _ => id), h.bel.trans (hb.mono h.bel.size)⟩
theorem keep5 {W w' : World} (hb : Below W.heap.size W w') {p q r t u : Addr} {x y z v y' : Value} (h : W.cell? p = some x ∧ W.cell? q = some y ∧ W.cell? r = some z ∧ W.cell? t = some v ∧ W.cell? u = some y') :
    w'.cell? p = some x ∧ w'.cell? q = some y ∧ w'.cell? r = some z ∧ w'.cell? t = some v ∧ w'.cell? u = some y' :=
  ⟨(hb.cell (block_lt_of_cell h.1)).trans h.1, (hb.cell (block_lt_of_cell h.2.1)).trans h.2.1, (hb.cell (block_lt_of_cell h.2.2.1)).trans h.2.2.1, (hb.cell (block_lt_of_cell h.2.2.2.1)).trans h.2.2.2.1, (hb.cell (block_lt_of_cell h.2.2.2.2)).trans h.2.2.2.2⟩
theorem keep15 {W w' : World} (hb : Below W.heap.size W w') {p q r t u p1 q1 r1 t1 u1 p2 q2 r2 t2 u2 : Addr} {x y z v y' x1 y1 z1 v1 y1' x2 y2 z2 v2 y2' : Value} (h : (W.cell? p = some x ∧ W.cell? q = some y ∧ W.cell? r = some z ∧ W.cell? t = some v ∧ W.cell? u = some y') ∧ (W.cell? p1 = some x1 ∧ W.cell? q1 = some y1 ∧ W.cell? r1 = some z1 ∧ W.cell? t1 = some v1 ∧ W.cell? u1 = some y1') ∧ (W.cell? p2 = some x2 ∧ W.cell? q2 = some y2 ∧ W.cell? r2 = some z2 ∧ W.cell? t2 = some v2 ∧ W.cell? u2 = some y2')) :
    (w'.cell? p = some x ∧ w'.cell? q = some y ∧ w'.cell? r = some z ∧ w'.cell? t = some v ∧ w'.cell? u = some y') ∧ (w'.cell? p1 = some x1 ∧ w'.cell? q1 = some y1 ∧ w'.cell? r1 = some z1 ∧ w'.cell? t1 = some v1 ∧ w'.cell? u1 = some y1') ∧ (w'.cell? p2 = some x2 ∧ w'.cell? q2 = some y2 ∧ w'.cell? r2 = some z2 ∧ w'.cell? t2 = some v2 ∧ w'.cell? u2 = some y2') :=
  ⟨keep5 hb h.1, keep5 hb h.2.1, keep5 hb h.2.2⟩
set_option maxRecDepth 100000 in
set_option maxHeartbeats 2000000 in
theorem chunkSplits_walk (w : World) (a0 : ByteArray) (w0 : a0.size ≤ maxLen) (turn : Int) :
    Calls Try.prog 9 #[.string a0, .int .i64 turn] w fun e w' => e = .returned (.bool true) ∧ Below w.heap.size w w' := by
  have HAW := Lib.hid (fun W => awake11_any W)
  obtain ⟨q, hq, eq⟩ := andM turn 65535 65535 rfl (by decide)
  have HC5 := Lib.hid (fun W => chCount_any (-5) (by unfold B64; omega) W)
  rw [show countP (-5) = 0 from rfl] at HC5
  go_enter Try.func9, Try.ntmps9
  go_wp2_with fail
  refine (cut_any a0 2000 _ w0 (by decide)).mono ?_
  rintro e w' ⟨rfl, rfl⟩
  have hs := cutB_le a0 2000
  rw [← bs_eta (cutB a0 2000)] at hs ⊢
  generalize (cutB a0 2000).data.toList = l at hs ⊢
  have hz := bs_size l
  rw [hz] at hs
  have HSP := Lib.hid (fun W => split_any (q : Int) l W (by omega))
  have HRS := Lib.hid (fun W => refSplit_any (q : Int) l W (by omega))
  go_wp2_with fail
  refine (HSP.out _).mono ?_
  rintro r w1 ⟨a, c, rfl, hown, hb1⟩
  have HO1 := Lib.hid hown
  have HB1 := Lib.hid hb1
  clear hown hb1 HSP
  go_wp2_with fail
  refine (HRS.out _).mono ?_
  rintro r w2 ⟨a2, c2, rfl, hown2, hb2⟩
  have HM2 : Hid (SsMem w (q : Int) l a a2 c c2 w2) := Lib.hid ⟨HO1.out.touch (touch_of_below (S := fun _ => False) hb2) (fun _ _ => id), ⟨hown2.1, fun x hx => by have := hown2.2 x hx; have := HB1.out.size; omega⟩, HB1.out.trans (hb2.mono HB1.out.size)⟩
  have hlen : (splitL (q : Int) l).length = cntN l.length := splitK_len _ _ _
  have hcn : cntN l.length ≤ 20 := by unfold cntN; omega
  have HCL := Lib.hid (fun W => chCount_any (l.length : Int) (by unfold B64; omega) W)
  rw [countP_nat] at HCL
  simp only [hlen]
  generalize hn : cntN l.length = n at hcn HCL
  have HNN := Lib.hid hn
  clear hown2 hb2 HRS HO1 HB1 hlen hn
  go_wp2_with fail
  refine (HAW.out _).mono ?_
  rintro r w3 ⟨rfl, hb3⟩
  have HM3 := Lib.hid (HM2.out.keep hb3)
  clear hb3 HM2 HAW
  go_wp2_with fail
  refine (HCL.out _).mono ?_
  rintro r w4 ⟨rfl, rfl⟩
  go_wp2_with fail
  refine (HC5.out _).mono ?_
  rintro r w4 ⟨rfl, rfl⟩
  go_wp2
  go_loopw [7, 43] (fun sv iv wr => ∃ k : Nat, k ≤ n ∧ sv = .string (bs (l.take (100 * k))) ∧ iv = .int .i64 k ∧ Hid (SsMem w (q : Int) l a a2 c c2 wr)) (fun _ iv _ => n - (intOf iv).toNat)
  case atStart => exact ⟨0, Nat.zero_le _, rfl, rfl, HM3⟩
  case round =>
    obtain ⟨k, hk, rfl, rfl, HM⟩ := hrel
    by_cases hlt : k < n
    · obtain ⟨g1, rfl, hg1, -, hc1⟩ := own_piece HM.out.r1 (by rw [HNN.out]; omega)
      obtain ⟨g2, rfl, hg2, -, hc2⟩ := own_piece HM.out.r2 (by rw [HNN.out]; omega)
      have p0 := hc1 0 (by rw [HNN.out]; omega)
      have pk := hc1 k (by rw [HNN.out]; exact hlt)
      have rk := hc2 k (by rw [HNN.out]; exact hlt)
      have HPK := Lib.hid (show pcV (pcAt (q : Int) l k) = .agg #[.int .i64 (q : Int), .int .i64 (l.length : Int), .int .u64 (sumOf l : Int), .int .i64 (k : Int), .string (bs ((l.drop (100 * k)).take 100))] from rfl)
      have HHK := Lib.hid (show headV (pcAt (q : Int) l k) = .agg #[.int .i64 (q : Int), .int .i64 (l.length : Int), .int .u64 (sumOf l : Int)] from rfl)
      have HP0 := Lib.hid (show pcV (pcAt (q : Int) l 0) = .agg #[.int .i64 (q : Int), .int .i64 (l.length : Int), .int .u64 (sumOf l : Int), .int .i64 0, .string (bs ((l.drop (100 * 0)).take 100))] from rfl)
      have HH0 := Lib.hid (show headV (pcAt (q : Int) l 0) = .agg #[.int .i64 (q : Int), .int .i64 (l.length : Int), .int .u64 (sumOf l : Int)] from rfl)
      have HTD := Lib.hid (fun W => told11_any (pcAt (q : Int) l k) W)
      have HCK := Lib.hid (fun W => pcCheck_any (pcAt (q : Int) l k) W (by show ((l.drop (100 * k)).take 100).length ≤ 1000000; rw [List.length_take]; omega))
      rw [pcAt_ok (q : Int) l k (by omega) (by omega) (by omega) (by rw [HNN.out]; exact hlt)] at HCK
      have HDk := Lib.hid (fun W => pcHead_any (pcAt (q : Int) l k) W)
      have HD0 := Lib.hid (fun W => pcHead_any (pcAt (q : Int) l 0) W)
      rw [HPK.out] at HTD HCK
      rw [HPK.out, HHK.out] at HDk
      rw [HP0.out, HH0.out] at HD0
      have HJ := Lib.hid (show bs (l.take (100 * k)) ++ bs ((l.drop (100 * k)).take 100) = bs (l.take (100 * (k + 1))) by
        rw [bs_append]; congr 1
        rw [show 100 * (k + 1) = 100 * k + 100 by omega, List.take_add])
      have hz1 : (bs (l.take (100 * k))).size ≤ 2000 := by rw [bs_size, List.length_take]; omega
      have hz2 : (bs ((l.drop (100 * k)).take 100)).size ≤ 100 := by rw [bs_size, List.length_take]; omega
      clear hc1 hc2 HPK HHK HP0 HH0
      have hsame := fun W => rpc_same (q : Int) (l.length : Int) (sumOf l : Int) (k : Int) (bs ((l.drop (100 * k)).take 100)) W
      have hhead := fun W => head_same (q : Int) (l.length : Int) (sumOf l : Int) W
      generalize bs ((l.drop (100 * k)).take 100) = Tk at pk rk HTD HCK HDk HJ hz2 hsame
      generalize bs ((l.drop (100 * 0)).take 100) = T0 at p0 HD0
      generalize bs (l.take (100 * k)) = A at HJ hz1 ⊢
      generalize hA' : bs (l.take (100 * (k + 1))) = A' at HJ
      have HA' := Lib.hid hA'
      clear hA'
      have v1 : ∀ W, (Op.stringOp .add A Tk).run Try.prog W = .ok (.string (A ++ Tk)) W := fun W => run_string_add_sum W _ _ (by omega)
      generalize hL0 : (l.length : Int) = L0 at p0 pk rk HTD HCK HDk HD0 hsame hhead
      generalize hsm : sumOf l = sm at p0 pk rk HTD HCK HDk HD0 hsame hhead
      obtain ⟨c0, c1, c2', c3, c4⟩ := pk
      obtain ⟨d0, d1, d2, d3, d4⟩ := rk
      obtain ⟨e0, e1, e2, e3, e4⟩ := p0
      simp only [Nat.zero_mul, Nat.zero_add] at e0 e1 e2 e3 e4
      have hk0 : (0 : Int) ≤ (k : Int) := by omega
      have hk1 : (k : Int) < (n : Int) := by omega
      have hn0 : (0 : Int) < (n : Int) := by omega
      have hn1 : 0 < n := by omega
      have hn2 : decide (0 < n) = true := by simp; omega
      go_upto_region 11 with (fail)
      have hA : Below wr.heap.size wr (wr.alloc (.cells #[.int .i64 (q : Int), .int .i64 L0, .int .u64 (sm : Int), .int .i64 (k : Int), .string Tk] 64)) := bel_alloc (Below.refl _ _) _
      have HMa := Lib.hid (HM.out.keep hA)
      have x0 : (wr.alloc (.cells #[.int .i64 (q : Int), .int .i64 L0, .int .u64 (sm : Int), .int .i64 (k : Int), .string Tk] 64)).cell? ⟨wr.heap.size, 0, none⟩ = some (.int .i64 (q : Int)) := by simp
      have x1 : (wr.alloc (.cells #[.int .i64 (q : Int), .int .i64 L0, .int .u64 (sm : Int), .int .i64 (k : Int), .string Tk] 64)).cell? ⟨wr.heap.size, 1, none⟩ = some (.int .i64 L0) := by simp
      have x2 : (wr.alloc (.cells #[.int .i64 (q : Int), .int .i64 L0, .int .u64 (sm : Int), .int .i64 (k : Int), .string Tk] 64)).cell? ⟨wr.heap.size, 2, none⟩ = some (.int .u64 (sm : Int)) := by simp
      have x3 : (wr.alloc (.cells #[.int .i64 (q : Int), .int .i64 L0, .int .u64 (sm : Int), .int .i64 (k : Int), .string Tk] 64)).cell? ⟨wr.heap.size, 3, none⟩ = some (.int .i64 (k : Int)) := by simp
      have x4 : (wr.alloc (.cells #[.int .i64 (q : Int), .int .i64 L0, .int .u64 (sm : Int), .int .i64 (k : Int), .string Tk] 64)).cell? ⟨wr.heap.size, 4, none⟩ = some (.string Tk) := by simp
      have hS1 := keep5 hA ⟨d0, d1, d2, d3, d4⟩
      have hS2 := keep5 hA ⟨e0, e1, e2, e3, e4⟩
      clear c0 c1 c2' c3 c4 d0 d1 d2 d3 d4 e0 e1 e2 e3 e4 hA HM v1
      generalize wr.alloc (.cells #[.int .i64 (q : Int), .int .i64 L0, .int .u64 (sm : Int), .int .i64 (k : Int), .string Tk] 64) = W at HMa x0 x1 x2 x3 x4 hS1 hS2 ⊢
      generalize wr.heap.size = X at x0 x1 x2 x3 x4 ⊢
      have hXl := block_lt_of_cell x0
      have hg1' := block_lt_of_cell hS2.1
      have hg2' := block_lt_of_cell hS1.1
      simp only at hXl hg1' hg2'
      have HMc := Lib.hid (HMa.out.keep (w' := W.drew) (Below.refl _ W).drew)
      clear HMa
      go_region_held3 (fun w' => (w'.cell? ⟨X, 0, none⟩ = some (.int .i64 (q : Int)) ∧ w'.cell? ⟨X, 1, none⟩ = some (.int .i64 L0) ∧ w'.cell? ⟨X, 2, none⟩ = some (.int .u64 (sm : Int)) ∧ w'.cell? ⟨X, 3, none⟩ = some (.int .i64 (k : Int)) ∧ w'.cell? ⟨X, 4, none⟩ = some (.string Tk)) ∧ (w'.cell? ⟨g2, k * 5, none⟩ = some (.int .i64 (q : Int)) ∧ w'.cell? ⟨g2, k * 5 + 1, none⟩ = some (.int .i64 L0) ∧ w'.cell? ⟨g2, k * 5 + 2, none⟩ = some (.int .u64 (sm : Int)) ∧ w'.cell? ⟨g2, k * 5 + 3, none⟩ = some (.int .i64 (k : Int)) ∧ w'.cell? ⟨g2, k * 5 + 4, none⟩ = some (.string Tk)) ∧ (w'.cell? ⟨g1, 0, none⟩ = some (.int .i64 (q : Int)) ∧ w'.cell? ⟨g1, 1, none⟩ = some (.int .i64 L0) ∧ w'.cell? ⟨g1, 2, none⟩ = some (.int .u64 (sm : Int)) ∧ w'.cell? ⟨g1, 3, none⟩ = some (.int .i64 0) ∧ w'.cell? ⟨g1, 4, none⟩ = some (.string T0)))
        (first | (refine keep15 hbK ?_; assumption) | assumption | exact ⟨⟨x0, x1, x2, x3, x4⟩, hS1, hS2⟩)
        (first
          | (go_at_call 31; refine (HTD.out _).mono ?_; rintro e wK ⟨rfl, hbK⟩; have HMc := Lib.hid (HMc.out.keep hbK))
          | (go_at_call 40; refine (HCK.out _).mono ?_; rintro e wK ⟨rfl, hbK⟩; have HMc := Lib.hid (HMc.out.keep hbK))
          | (go_at_call 49; (first | with_reducible refine (HDk.out _).mono ?_ | with_reducible refine (HD0.out _).mono ?_); rintro e wK ⟨rfl, hbK⟩; have HMc := Lib.hid (HMc.out.keep hbK)))
      all_goals
        have HMz := Lib.hid HMc.out
        go_wp2
        go_roundw
        case rel => exact ⟨k + 1, by omega, by rw [HJ.out, ← HA'.out], by go_num, HMz⟩
        case measure => simp [intOf]; omega
    · obtain rfl : k = n := by omega
      have HE := Lib.hid (show bs (l.take (100 * k)) = bs l by rw [List.take_of_length_le]; have := HNN.out; unfold cntN at this; omega)
      rw [HE.out]
      have hse := str_eq (bs l)
      go_wp2
      go_ret
      exact ⟨rfl, HM.out.bel⟩
end Go.Proofs.Ytdkokfpbmmjfkaa
