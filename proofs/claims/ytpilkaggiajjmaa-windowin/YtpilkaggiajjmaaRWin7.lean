/-
  Layer 13: the document's own: a thing comes that may wait: all that is in its order goes out.
-/
import Derived.Test.YtpilkaggiajjmaaRWin6
namespace Go.Proofs.Ytpilkaggiajjmaa
open Go.RowKit
set_option linter.unusedVariables false

/-- What went out, and what is still to go. -/
def go3 (out : List (List UInt8)) (f n : Nat) (L : Its) : Nat × Its × List (List UInt8) := ((goR f n L).1, (goR f n L).2.1, out ++ (goR f n L).2.2)
theorem go3_none {out : List (List UInt8)} {f n : Nat} {L : Its} (h : findW L n = none) : go3 out f n L = (n, L, out) := by
  unfold go3; rw [goR_none h]; simp
theorem go3_some {out : List (List UInt8)} {f n : Nat} {L : Its} {t : List UInt8} (h : findW L n = some t) : go3 out (f + 1) n L = go3 (out ++ [t]) f (n + 1) (L.filter (fun p => p.1 != n)) := by
  unfold go3; rw [goR_some h]; simp
theorem go3_nil (f n : Nat) (L : Its) : goR f n L = go3 [] f n L := by unfold go3; simp
theorem RRow.take {w : World} {b off : Nat} {L : Its} (h : RRow w (some ⟨b, off, none⟩) L) (k : Nat) : RRow w (some ⟨b, off, none⟩) (L.take k) := by
  intro h0
  have hk : 0 < L.length := by simp only [List.length_map, List.length_take] at h0; omega
  obtain ⟨b', off', e, hc⟩ := h (by simpa using hk)
  refine ⟨b', off', e, fun i hi j hj => ?_⟩
  have hi2 : i < L.length := by rw [List.length_map, List.length_take] at hi; omega
  have := hc i (by rw [List.length_map]; exact hi2) j hj
  rw [this]
  simp
theorem k1s13 {w : World} {X T o : Nat} {t0 t1 v : Value} (hT : X ≠ T) (h : w.cell? ⟨X, 0, none⟩ = some t0 ∧ w.cell? ⟨X, 1, none⟩ = some t1) : (w.setCell ⟨T, o, none⟩ v).cell? ⟨X, 0, none⟩ = some t0 ∧ (w.setCell ⟨T, o, none⟩ v).cell? ⟨X, 1, none⟩ = some t1 :=
  ⟨(World.cell?_setCell_other _ _ _ _ (by intro e; cases e; exact hT rfl)).trans h.1, (World.cell?_setCell_other _ _ _ _ (by intro e; cases e; exact hT rfl)).trans h.2⟩
theorem RRow.drop {w : World} {b off : Nat} {L : Its} (h : RRow w (some ⟨b, off, none⟩) L) (k o : Nat) (ho : o = off + k * 2 ∨ L.length ≤ k) : RRow w (some ⟨b, o, none⟩) (L.drop k) := by
  intro h0
  simp only [List.length_map, List.length_drop] at h0
  obtain ⟨b', off', e, hc⟩ := h (by rw [List.length_map]; omega)
  simp only [Option.some.injEq, Addr.mk.injEq] at e
  obtain ⟨rfl, rfl, -⟩ := e
  have ho : o = off + k * 2 := by rcases ho with h | h; · exact h
                                  · omega
  refine ⟨b, o, rfl, fun i hi j hj => ?_⟩
  simp only [List.length_map, List.length_drop] at hi
  have := hc (k + i) (by rw [List.length_map]; omega) j hj
  rw [show o + i * 2 + j = off + (k + i) * 2 + j by omega, this]
  simp
theorem md1 (w : World) : NewV 39 2 w (some ⟨w.heap.size, 0, none⟩) 0 [] (w.alloc (.cells #[] 39)).drew := (NewV.made _ _ (Below.refl _ _) _ rfl).drew
theorem md2 (w : World) (o : Obj) : NewV 39 2 w (some ⟨w.heap.size, 0, none⟩) 0 [] ((w.alloc (.cells #[] 39)).alloc o).drew := ((NewV.made _ _ (Below.refl _ _) _ rfl).keep (bel_alloc (Below.refl _ _) _)).drew
theorem md3 (w : World) (o : Obj) : NewV 39 2 w (some ⟨w.heap.size + 1, 0, none⟩) 0 [] ((w.alloc o).alloc (.cells #[] 39)).drew := (NewV.made _ _ (bel_alloc (Below.refl _ _) _) _ (by simp)).drew
abbrev App13 (W0 : World) (a : Option Addr) (c : Nat) (L : Its) (k n : Nat) (x : Nat) (t : List UInt8) (ty : TypeId) (Wc : World) : Prop := ∃ a' c' w', (Builtin.append_ #[27, 27] ty #[.slice a L.length c, .slice (some ⟨k, 0, none⟩) 1 1]).run Try.prog Wc = .ok (.slice a' (L.length + 1) c') w' ∧ NewV 39 2 W0 a' c' ((L ++ [(x, t)]).map riC) w'
theorem ap1 {W0 W w5 : World} {a : Option Addr} {c x : Nat} {t : List UInt8} {L : Its} {o : Obj} {ty ty2 : TypeId} (h : NewV 39 2 W0 a c (L.map riC) w5) (ht : Touch (fun b => b = W.heap.size + 1) ((W.alloc (.cells #[.int .i64 (x : Int), .string (bs t)] ty2)).alloc o).drew w5) (hl : L.length ≤ 900) : App13 W0 a c L W.heap.size 1 x t ty w5 :=
  app13b (M := [(x, t)]) h ((RRow.below (lit13 x t _ rfl) (bel_alloc (Below.refl _ _) _)).drew.touch ht (fun y hy => by cases hy; simp only; omega)) (fun h => by cases h) (by simp; omega)
theorem ap2 {W0 W w5 : World} {a : Option Addr} {c x : Nat} {t : List UInt8} {L : Its} {o : Obj} {ty ty2 : TypeId} (h : NewV 39 2 W0 a c (L.map riC) w5) (ht : Touch (fun b => b = W.heap.size) ((W.alloc o).alloc (.cells #[.int .i64 (x : Int), .string (bs t)] ty2)).drew w5) (hl : L.length ≤ 900) : App13 W0 a c L (W.heap.size + 1) 1 x t ty w5 :=
  app13b (M := [(x, t)]) h ((lit13 x t _ (by simp)).drew.touch ht (fun y hy => by cases hy; simp only; omega)) (fun h => by cases h) (by simp; omega)
theorem ap3 {W0 w5 : World} {a : Option Addr} {c x : Nat} {t : List UInt8} {L : Its} {ty ty2 : TypeId} (h : NewV 39 2 W0 a c (L.map riC) w5) (hl : L.length ≤ 900) : App13 W0 a c L w5.heap.size 1 x t ty (w5.alloc (.cells #[.int .i64 (x : Int), .string (bs t)] ty2)) :=
  app13b (M := [(x, t)]) (h.keep (bel_alloc (Below.refl _ _) _)) (lit13 x t _ rfl) (fun h => by cases h) (by simp; omega)
theorem apA {W0 Wc : World} {a : Option Addr} {c k q : Nat} {P : Its} {ty : TypeId} (hmade : NewV 39 2 W0 (some ⟨k, 0, none⟩) 0 [] Wc) (hr : RRow W0 a P) (hn : a = none → P = []) (hP : P.length = q) (hl : q ≤ 1000) :
    ∃ a' c' w', (Builtin.append_ #[27, 27] ty #[.slice (some ⟨k, 0, none⟩) 0 0, .slice a q c]).run Try.prog Wc = .ok (.slice a' q c') w' ∧ (NewV 39 2 W0 a' c' (P.map riC) w' ∧ Touch (fun b => b = k) Wc w') := by
  subst hP; exact app13a hmade hr hn hl
theorem apB {W0 Wc : World} {a1 a2 : Option Addr} {c1 c2 q m m' : Nat} {P Q : Its} {ty : TypeId} (h : NewV 39 2 W0 a1 c1 (P.map riC) Wc) (hv : RRow Wc a2 Q) (hn : a2 = none → Q = []) (hP : P.length = q) (hQ : Q.length = m) (hm : m' = m) (hl : q + m ≤ 1000) :
    ∃ a' c' w', (Builtin.append_ #[27, 27] ty #[.slice a1 q c1, .slice a2 m' c2]).run Try.prog Wc = .ok (.slice a' (q + m) c') w' ∧ NewV 39 2 W0 a' c' ((P ++ Q).map riC) w' := by
  subst hm hP hQ; exact app13b h hv hn hl
set_option maxRecDepth 100000 in
set_option maxHeartbeats 4000000 in
theorem ref13Put_in (a : Option Addr) (c n x : Nat) (L : Its) (t : List UInt8) (w : World) (hn : n ≤ 10000) (hl : L.length ≤ 32) (hr : RRow w a L) (hnn : a = none → L = []) (nd : (L.map (·.1)).Nodup) (h1 : n ≤ x) (h2 : x ≤ n + 32) (h3 : findW L x = none) :
    Calls Try.prog 26 #[.agg #[.int .i64 (n : Int), .slice a L.length c], .agg #[.int .i64 (x : Int), .string (bs t)]] w (P13 w a (putR n L x t)) := by
  have e : putR n L x t = (go3 [] (L.length + 2) n (L ++ [(x, t)]), 0) := by unfold putR; rw [if_neg (by omega), if_neg (by omega), if_neg (by simp [h3]), go3_nil]
  rw [e]
  have HND : Hid (((L ++ [(x, t)]).map (·.1)).Nodup) := Lib.hid (by
    simp only [List.map_append, List.map_cons, List.map_nil]
    rw [List.nodup_append]
    refine ⟨nd, by simp, fun a ha b hb' => ?_⟩
    have hb' : b = x := by simpa using hb'
    obtain ⟨p, hp, rfl⟩ := List.mem_map.1 ha
    intro e
    rw [hb'] at e
    have := findW_of nd (show (x, p.2) ∈ L by rw [← e]; exact hp)
    rw [h3] at this; cases this)
  have HFI := Lib.hid ((find13_any a c L x (w3_13 w n a L.length c x t) (by omega) (hr.below (w3_bel ..))).mono (R' := fun r w' => r = .returned (.int .i64 (-1)) ∧ Below (w3_13 w n a L.length c x t).heap.size (w3_13 w n a L.length c x t) w') fun r w' ⟨⟨z, hz, hf⟩, hb⟩ => by
    rcases find13_fw hf nd with ⟨k, hk, -, -, hs⟩ | ⟨rfl, hno⟩
    · rw [h3] at hs; cases hs
    · exact ⟨hz, hb⟩)
  have HFL := Lib.hid (fun a c (L : Its) (x : Nat) W hl hr => find13_any a c L x W hl hr)
  have HR3 := Lib.hid (hr.below (w3_bel w n a L.length c x t))
  have HT := Lib.hid (ti13 w n L.length a c x t)
  have HN := Lib.hid hnn
  unfold w3_13 at HFI HT HR3
  generalize hpost : P13 w a (go3 [] (L.length + 2) n (L ++ [(x, t)]), 0) = Post
  have HPost := Lib.hid hpost
  have hi1 : (n : Int) ≤ (x : Int) := by omega
  have hi2 : (x : Int) ≤ (n : Int) + 32 := by omega
  have hnb : (n : Int) ≤ 10000 := by omega
  have hwn := frozen_new13
  clear hwn e hr hnn nd h1 h2 h3 hpost
  go_enter Try.func26, Try.ntmps26
  go_wp2_with fail
  generalize ((w.alloc (.cells #[.int .i64 (n : Int), .slice a L.length c] 56)).alloc (.cells #[.int .i64 (x : Int), .string (bs t)] 39)).alloc (.cells #[.int .i64 0, .slice none 0 0] 56) = W3 at HFI HT HR3 ⊢
  refine HFI.out.mono ?_
  rintro r w4 ⟨rfl, hb⟩
  have HT4 := Lib.hid (HT.out.keep hb)
  have HRW := Lib.hid (HR3.out.below hb)
  clear hb HFI HT HR3
  generalize hNL : L.length = N
  have HNL := Lib.hid hNL
  have HNL' : Hid (N = L.length) := Lib.hid hNL.symm
  rw [hNL] at hl HT4
  clear hNL
  go_upto_region 7 with (fail)
  go_cut [36] (fun v36 wx => ∃ (w5 : World) (a5 : Option Addr) (c5 : Nat), v36 = v36 ∧ wx = w5.setCell ⟨w.heap.size, 1, none⟩ (.slice a5 (N + 1) c5) ∧ Hid (NewV 39 2 w4 a5 c5 ((L ++ [(x, t)]).map riC) w5))
  case first =>
    have t1 := HT4.out.t1
    have f1 := HT4.out.f1
    have x0 := HT4.out.x0
    have x1 := HT4.out.x1
    have hl2 := HT4.out.lt
    have hT : w.heap.size < w4.heap.size := by omega
    have hX : w.heap.size + 1 < w4.heap.size := by omega
    go_region_law (first
      | (refine step_app_ex _ rfl (.tmp 30) (.tmp 32) 27 27 rfl (.slice (some ⟨_, 0, none⟩) 0 0) (.slice a N c) (by rfl) (by rfl) N _ (by rw [HNL'.out]; exact app13a (W0 := w4) (by first | with_reducible exact md1 _ | with_reducible exact md2 _ _ | with_reducible exact md3 _ _) HRW.out HN.out (by have := HNL.out; omega)) ?_; rintro a4 c4 w5 ⟨hn4, ht4⟩; have HN4 := Lib.hid hn4; have HT5 := Lib.hid ht4; have x0' := (hn4.2.cell (p := ⟨w.heap.size + 1, 0, none⟩) hX).trans x0; have x1' := (hn4.2.cell (p := ⟨w.heap.size + 1, 1, none⟩) hX).trans x1; have hX' := Nat.lt_of_lt_of_le hX hn4.2.size; clear hn4 ht4)
      | (refine step_app_ex _ rfl (.tmp 33) (.tmp 35) 27 27 rfl (.slice a4 N c4) (.slice (some ⟨_, 0, none⟩) 1 1) (by rfl) (by rfl) (N + 1) _ (by rw [HNL'.out]; first | with_reducible exact ap1 HN4.out HT5.out (by have := HNL.out; omega) | with_reducible exact ap2 HN4.out HT5.out (by have := HNL.out; omega) | with_reducible exact ap3 HN4.out (by have := HNL.out; omega)) ?_; rintro a6 c6 w6 hn6; have HN6 := Lib.hid hn6; have t1' := (hn6.2.cell (p := ⟨w.heap.size, 1, none⟩) hT).trans t1; have f1' := (hn6.2.frozen (p := ⟨w.heap.size, 1, none⟩) hT).trans f1; have hT' := Nat.lt_of_lt_of_le hT hn6.2.size; clear hn6))
    all_goals
      go_wp2_with fail
      go_meet
      exact ⟨w6, a6, c6, trivial, rfl, HN6⟩
  case rest =>
    obtain ⟨w5, a5, c5, -, rfl, HN5⟩ := hcut
    have HLO := Lib.hid (HT4.out.lo HN5.out (N + 1) (by have := HNL.out; simp; omega))
    have HTT : Hid (go3 [] (N + 2) n (L ++ [(x, t)]) = go3 [] (N + 2) n (L ++ [(x, t)]) ∧ (L ++ [(x, t)]).length = N + 1) := Lib.hid ⟨rfl, by have := HNL.out; simp; omega⟩
    rw [HNL.out] at HPost
    generalize hGT : go3 [] (N + 2) n (L ++ [(x, t)]) = GT at HPost HTT
    have HGT := Lib.hid hGT
    clear HT4 HRW HN5 hGT HN
    go_wp2_with fail
    generalize (w5.setCell ⟨w.heap.size, 1, none⟩ (.slice a5 (N + 1) c5)).alloc (.cells #[] 9) = W8 at HLO ⊢
    generalize w5.heap.size = gS at HLO ⊢
    go_loopw [7, 8] (fun v7 v8 wr => ∃ (k n' : Nat) (a' : Option Addr) (c' : Nat) (L' : Its) (oa : Option Addr) (oc : Nat) (out : List (List UInt8)), k ≤ N + 1 ∧ n' ≤ n + k ∧ v7 = .slice oa out.length oc ∧ v8 = .int .i64 k ∧ Hid (L'.length + k = N + 1 ∧ out.length ≤ k ∧ (L'.map (·.1)).Nodup ∧ go3 out (L'.length + 1) n' L' = GT ∧ Lo13 w n' a' c' L' oa oc out wr)) (fun _ v8 _ => 40 - (intOf v8).toNat)
    case atStart => exact ⟨0, n, a5, c5, L ++ [(x, t)], some ⟨gS, 0, none⟩, 0, [], by omega, by omega, rfl, rfl, Lib.hid ⟨by simpa using HTT.out.2, by simp, HND.out, by rw [HTT.out.2]; exact HGT.out, HLO.out⟩⟩
    case round =>
      obtain ⟨k, n', a', c', L', oa, oc, out, hk, hn', rfl, rfl, HS⟩ := hrel
      obtain ⟨hLk, hok, hnd, hgo, hlo⟩ := HS.out
      have HLK := Lib.hid hLk
      have HNDL := Lib.hid hnd
      have HGO := Lib.hid hgo
      have HLOL := Lib.hid hlo
      have hk40 : (k : Int) < 40 := by omega
      have hM : L'.length ≤ 33 := by omega
      have HFK := Lib.hid ((HFL.out a' c' L' n' wr (by omega) hlo.row).mono (R' := fun r w' => ((∃ q, ∃ hq : q < L'.length, r = .returned (.int .i64 (q : Int)) ∧ L'[q].1 = n' ∧ findW L' n' = some L'[q].2) ∨ (r = .returned (.int .i64 (-1)) ∧ findW L' n' = none)) ∧ Below wr.heap.size wr w') fun r w' ⟨⟨z, hz, hf⟩, hb⟩ => ⟨by
        rcases find13_fw hf hnd with ⟨q, hq, rfl, h1, h2⟩ | ⟨rfl, h1⟩
        · exact .inl ⟨q, hq, hz, h1, h2⟩
        · exact .inr ⟨hz, h1⟩, hb⟩)
      have t0 := hlo.t0
      have t1 := hlo.t1
      have hTl := block_lt_of_cell t0
      simp only at hTl
      clear hLk hnd hgo hlo HS
      go_wp2_with fail
      refine HFK.out.mono ?_
      rintro r w6 ⟨hcs, hb⟩
      have HLO6 := Lib.hid (HLOL.out.keep hb)
      clear hb HFK t0 t1 hTl HLOL
      rcases hcs with ⟨q, hq, rfl, he, hs⟩ | ⟨rfl, hno⟩
      · obtain ⟨g, off, rfl, hg, d0, d1⟩ := HLO6.out.row.at hq
        obtain ⟨a7, c7, w7, hrun, ho7, ht7, hf7⟩ := str_one HLO6.out.o L'[q].2 (by omega) out.length rfl
        have HRUN := Lib.hid hrun
        have HLO7 := Lib.hid (HLO6.out.more ho7 ht7 hf7)
        have HGO2 := Lib.hid (show go3 (out ++ [L'[q].2]) L'.length (n' + 1) (L'.filter (fun p => p.1 != n')) = GT from by rw [← go3_some hs]; exact HGO.out)
        have HLESS := Lib.hid (one_less HNDL.out (findW_mem hs))
        have HER := Lib.hid (erase_at HNDL.out hq he)
        have HND2 := Lib.hid (nodup_filter HNDL.out (fun p => p.1 != n'))
        have HRP := Lib.hid (HLO7.out.row.take q)
        have HRQ := Lib.hid (fun o ho => HLO7.out.row.drop (q + 1) o ho)
        have HPL : Hid ((L'.take q).length = q) := Lib.hid (by rw [List.length_take]; omega)
        have HQL : Hid ((L'.drop (q + 1)).length = L'.length - (q + 1)) := Lib.hid (by rw [List.length_drop])
        have hcap := HLO7.out.cap.1
        have hcmx := HLO7.out.cap.2.1
        unfold maxLen at hcmx
        generalize L'[q].2 = tq at d1 HRUN HLO7 HGO2
        generalize hF : L'.filter (fun p => p.1 != n') = F at HGO2 HLESS HER HND2
        generalize L'.take q = P at HER HRP HPL
        generalize L'.drop (q + 1) = Q at HER HRQ HQL
        have t1 := HLO6.out.t1
        have hTl := HLO6.out.lt
        have hTl2 : w.heap.size < w6.heap.size := by omega
        have hq0 : (0 : Int) ≤ (q : Int) := by omega
        have hq1 : (q : Int) < (L'.length : Int) := by omega
        have hq2 : ¬ (q : Int) < 0 := by omega
        clear hrun ho7 ht7 hf7 d0 he hs hF HNDL HGO
        go_upto_region 16 with (at_builtin; refine wpList_append_run _ rfl (.tmp 52) (.tmp 59) 57 57 rfl _ _ rfl rfl (.slice a7 (out.length + 1) c7) w7 HRUN.out ?_)
        clear t1 hTl hTl2 d1 hg HRUN HLO6
        have HM := Lib.hid (show L'.length ≤ 33 ∧ L'.length + k = N + 1 from ⟨hM, HLK.out⟩)
        go_cut [72] (fun v72 wx => ∃ (w8 : World) (a8 : Option Addr) (c8 : Nat), v72 = v72 ∧ wx = w8.setCell ⟨w.heap.size, 1, none⟩ (.slice a8 (q + (L'.length - (q + 1))) c8) ∧ Hid (NewV 39 2 w7 a8 c8 ((P ++ Q).map riC) w8))
        case first =>
          have t1 := HLO7.out.t1
          have f1 := HLO7.out.f1
          have hTl := HLO7.out.lt
          have hT : w.heap.size < w7.heap.size := by omega
          have hmq : (q : Int) + 1 ≤ (L'.length : Int) := by omega
          have hqc : (q : Int) ≤ (c' : Int) := by omega
          have hwq : IntKind.i64.wrap ((q : Int) + 1) = (q : Int) + 1 := by rw [IntKind.wrap_i64]; omega
          have htn : ((q : Int) + 1).toNat = q + 1 := by omega
          have hq3 : (0 : Int) ≤ (q : Int) + 1 := by omega
          have hq4 : (q : Int) ≤ (q : Int) + 1 := by omega
          rcases Classical.em (c' = q + 1) with rfl | hqe
          all_goals
            go_region_law (first
              | (refine step_app_ex _ rfl (.tmp 61) (.tmp 65) 27 27 rfl (.slice (some ⟨_, 0, none⟩) 0 0) (.slice (some ⟨g, off, none⟩) q _) (by rfl) (by rfl) q _ (apA (W0 := w7) (by first | with_reducible exact md1 _ | with_reducible exact md2 _ _ | with_reducible exact md3 _ _) HRP.out (fun h => by cases h) HPL.out (by omega)) ?_; rintro a9 c9 w9 ⟨hn9, ht9⟩; have HN9 := Lib.hid hn9; have t1a := (hn9.2.cell (p := ⟨w.heap.size, 1, none⟩) hT).trans t1; have hTa := Nat.lt_of_lt_of_le hT hn9.2.size; clear hn9 ht9)
              | (refine step_app_ex _ rfl (.tmp 66) (.tmp 71) 27 27 rfl (.slice a9 q c9) (.slice (some ⟨g, _, none⟩) _ _) (by rfl) (by rfl) (q + (L'.length - (q + 1))) _ (apB (W0 := w7) HN9.out ((HRQ.out _ (by first | (left; rfl) | (right; omega) | (left; omega))).below HN9.out.2) (fun h => by cases h) HPL.out HQL.out (by first | rfl | omega) (by omega)) ?_; rintro a10 c10 w10 hn10; have HN10 := Lib.hid hn10; have t1b := (hn10.2.cell (p := ⟨w.heap.size, 1, none⟩) hT).trans t1; have f1b := (hn10.2.frozen (p := ⟨w.heap.size, 1, none⟩) hT).trans f1; have hTb := Nat.lt_of_lt_of_le hT hn10.2.size; clear hn10))
          all_goals
            go_wp2_with fail
            go_meet
            exact ⟨w10, a10, c10, trivial, by first | rfl | rw [show q + (L'.length - (q + 1)) = q by omega], HN10⟩
        case rest =>
          obtain ⟨w8, a8, c8, -, rfl, HN8⟩ := hcut
          rw [HER.out] at HN8
          have HLO8 := Lib.hid (HLO7.out.store HN8.out (q + (L'.length - (q + 1))) (by have := HLESS.out; omega)).2.2.2
          clear HN8 HLO7 HRP HRQ
          generalize w8.setCell ⟨w.heap.size, 1, none⟩ (.slice a8 (q + (L'.length - (q + 1))) c8) = W9 at HLO8 ⊢
          have t0 := HLO8.out.t0
          have f0 := HLO8.out.f0
          have hTl := HLO8.out.lt
          have hTl2 : w.heap.size < W9.heap.size := by omega
          have hnb2 : (n' : Int) ≤ 20000 := by omega
          have HLO9 := Lib.hid (HLO8.out.next (n' := n' + 1))
          have ecast : ((n' + 1 : Nat) : Int) = (n' : Int) + 1 := by omega
          rw [ecast] at HLO9
          clear ecast
          go_wp2
          go_roundw
          case rel => exact ⟨k + 1, n' + 1, a8, c8, F, a7, c7, out ++ [tq], by have := HM.out; omega, by omega, by simp, by go_num, Lib.hid ⟨by have := HLESS.out; have := HM.out; omega, by simp; omega, HND2.out, by have := HLESS.out; rw [this]; exact HGO2.out, HLO9.out⟩⟩
          case measure => simp [intOf] <;> omega
      · have HG : Hid (GT = (n', L', out)) := Lib.hid (by rw [← HGO.out, go3_none hno])
        have HF := Lib.hid (fun u v => HLO6.out.fin a u v)
        rw [← HG.out, HPost.out] at HF
        have t0 := HLO6.out.t0
        have t1 := HLO6.out.t1
        have r0 := HLO6.out.r0
        have r1 := HLO6.out.r1
        have z0 := HLO6.out.z0
        have z1 := HLO6.out.z1
        have hRl := HLO6.out.lt
        have hTl : w.heap.size < w6.heap.size := by omega
        clear hno HGO HNDL HLO6 HG
        go_wp2
        exact bodyPost_ret (v := .tuple #[.agg #[.int .i64 (n' : Int), .slice a' L'.length c'], .slice oa out.length oc, .int .i64 0]) (by simp [results, Try.results26, go_sem, r0, r1]) rfl (HF.out _ _)
end Go.Proofs.Ytpilkaggiajjmaa
