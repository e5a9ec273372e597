/-
  Layer 20: the document's own: a record out of bytes.
-/
import Derived.Test.YtcbadcbnknmdnaaRec6
namespace Go.Proofs.Ytcbadcbnknmdnaa
open Go.RowKit
set_option linter.unusedVariables false

theorem chsS_stOk {st : St} (h : StOk st) : StOk (chsS st).1 := by
  have hB : chsS st = runS chyS (countS st 8).2 (countS st 8).1 := rfl
  rw [hB]
  exact runS_stOk (fun s hs => chyS_stOk hs) _ (countS_stOk h)
theorem p3_start {w : World} {C : Nat} {s6 : St} {a : Option Addr} {n : Nat} {c : Nat} {ls : List (List Value)} {m : List Chg} {t tk dl : Int} {B : Nat} {u3 W : World} (hd : D3 w s6 W) (hC : C = W.heap.size) (hB : w.heap.size + 2 < B) (hls : s6.2 = 0 → Inn B none u3 (fun W => VRow 3 W a ls ∧ ChIs W ls m)) (ht : Touch (fun b => b ≤ w.heap.size + 2) u3 W) : Ph3 w C s6 t a n c ls m tk dl none 0 [] [] (W.alloc (.cells #[.int .i64 t, .slice a n c, .int .i64 tk, .int .i64 dl, .slice none 0 0] 46)) := by
  subst hC
  have hlt := hd.lt
  refine ⟨hd.keep (bel_alloc (Below.refl _ _) _), Cs.new rfl rfl, fun j => frozen_new _ _ _ _, ⟨World.ownsRow_nil _ _ _ _, (fun x hx => by cases hx)⟩, fun he W' hW => ⟨hls he W' (((ht.mono fun k _ e => show _ ∨ _ from .inl (by omega)).alloc _).trans' hW fun j hj e => ?_), PlIs.nil W'⟩, hlt⟩
  rcases e with e | e
  · rcases e with e | e
    · exact .inl (by omega)
    · have := ht.size; omega
  · simp at e
set_option maxRecDepth 100000 in
set_option maxHeartbeats 4000000 in
theorem refRecRead_any (st : St) (w : World) (h : StOk st) : Calls Try.prog 22 #[.agg #[.string (bs st.1), .int .i64 (st.2 : Nat)]] w (RdPost w (recS st)) := by
  have hR : recS st = recG0 (countS st 1099511627776).2 (countS st 1099511627776).1 := rfl
  have HF : Hid (∀ t a c ls m tk dl a2 c2 ls2 pm n n2 W, recT (recS st) = ⟨t, m, tk, dl, pm⟩ → n = ls.length → n2 = ls2.length → Below w.heap.size w W → Inn w.heap.size none W (fun W => RecIs W ⟨t, m, tk, dl, pm⟩ a ls a2 ls2) → RdPost w (recS st) (.returned (.tuple #[.agg #[.string (bs (recS st).1.1), .int .i64 ((recS st).1.2 : Nat)], .agg #[.int .i64 t, .slice a n c, .int .i64 tk, .int .i64 dl, .slice a2 n2 c2]])) W) := Lib.hid fun t a c ls m tk dl a2 c2 ls2 pm n n2 W h1 h2 h3 h4 h5 => by
    unfold RdPost
    rw [h1]
    exact ⟨a, n, c, ls, a2, n2, c2, ls2, rfl, h4, Lib.hid ⟨h2, h3, h5⟩⟩
  generalize RdPost w (recS st) = Post at HF ⊢
  generalize recS st = T at HF hR
  have hC1 := fun W => refTakeCount_any st.1 st.2 1099511627776 W (by decide) (by decide) h.2 h.1
  have k1 := countS_stOk (most := 1099511627776) h
  have HB0 := Lib.hid (D3.new w st)
  obtain ⟨l0, e0⟩ := st
  simp only at hC1 hR HB0 ⊢
  generalize countS (l0, e0) 1099511627776 = t1 at hC1 hR k1
  obtain ⟨s1, t⟩ := t1
  simp only [inV] at hC1
  simp only at hR k1
  have hC2 := fun W => refChanges_any s1 W k1
  unfold RhPost at hC2
  have k3 := chsS_stOk k1
  have hR3 : T = recG1 t (chsS s1).2 (chsS s1).1 := hR
  clear hR
  generalize chsS s1 = t2 at hC2 hR3 k3
  obtain ⟨s3, m⟩ := t2
  simp only at hC2 hR3 k3
  have hC3 := fun W => refTakeCount_any s3.1 s3.2 64 W (by decide) (by decide) k3.2 k3.1
  rw [show (s3.1, s3.2) = s3 from rfl] at hC3
  have k4 := countS_stOk (most := 64) k3
  have j4 : s3.2 ≠ 0 → (countS s3 64).1 = s3 := fun he => (countC 64 (by decide)).stuck k3 he
  have hR4 : T = recG2 t m (countS s3 64).2 (countS s3 64).1 := hR3
  clear hR3
  generalize countS s3 64 = t3 at hC3 hR4 k4 j4
  obtain ⟨s4, tk⟩ := t3
  simp only [inV] at hC3
  simp only at hR4 k4 j4
  have hC4 := fun W => refTakeCount_any s4.1 s4.2 6 W (by decide) (by decide) k4.2 k4.1
  rw [show (s4.1, s4.2) = s4 from rfl] at hC4
  have k5 := countS_stOk (most := 6) k4
  have j5 : s4.2 ≠ 0 → (countS s4 6).1 = s4 := fun he => (countC 6 (by decide)).stuck k4 he
  have hR5 : T = recG3 t m tk (countS s4 6).2 (countS s4 6).1 := hR4
  clear hR4
  generalize countS s4 6 = t4 at hC4 hR5 k5 j5
  obtain ⟨s5, dl⟩ := t4
  simp only [inV] at hC4
  simp only at hR5 k5 j5
  have hC5 := fun W => refTakeCount_any s5.1 s5.2 32 W (by decide) (by decide) k5.2 k5.1
  rw [show (s5.1, s5.2) = s5 from rfl] at hC5
  have k6 := countS_stOk (most := 32) k5
  have hle := countS_le s5 32
  have j6 : s5.2 ≠ 0 → (countS s5 32).1 = s5 := fun he => (countC 32 (by decide)).stuck k5 he
  have hR6 : T = ((runS plyS (countS s5 32).2 (countS s5 32).1).1, ⟨(t : Int), m, (tk : Int), (dl : Int), (runS plyS (countS s5 32).2 (countS s5 32).1).2⟩) := hR5
  clear hR5
  generalize countS s5 32 = t5 at hC5 hR6 k6 j6 hle
  obtain ⟨s6, n6⟩ := t5
  simp only [inV] at hC5
  simp only at hR6 k6 j6 hle
  have HMONO : Hid (s6.2 = 0 → s3.2 = 0) := Lib.hid (fun h6 => by
    rcases Classical.em (s3.2 = 0) with e | e
    · exact e
    · have e4 := j4 e
      subst e4
      have e5 := j5 e
      subst e5
      have e6 := j6 e
      subst e6
      exact h6)
  have HC1 := Lib.hid hC1
  have HC2 := Lib.hid hC2
  have HC3 := Lib.hid hC3
  have HC4 := Lib.hid hC4
  have HC5 := Lib.hid hC5
  have HR := Lib.hid hR6
  have HOK := Lib.hid (fun j => runS_stOk (fun s hs => plyS_stOk hs) j k6)
  have HST := Lib.hid (fun j (hj : j ≤ n6) => run_stuckG (fun s hs => plyS_stOk hs) (fun s hs he => plyC.stuck hs he) k6 hj)
  clear hC1 hC2 hC3 hC4 hC5 hR6 h k1 k3 k4 k5 k6 j4 j5 j6
  go_enter Try.func22, Try.ntmps22
  go_wp2_with fail
  refine (HC1.out _).mono ?_
  rintro r w1 ⟨rfl, hb1⟩
  have HB1 := Lib.hid (HB0.out.keep hb1)
  have HX1 := Lib.hid (HB1.out.set s1)
  have a0 := HB1.out.d.i0
  have a1 := HB1.out.d.i1
  have g0 := HB1.out.d.fr w.heap.size 0 (by omega) (by omega)
  have g1 := HB1.out.d.fr w.heap.size 1 (by omega) (by omega)
  have hz := HB1.out.lt
  have hzw : w.heap.size < w1.heap.size := by omega
  clear hb1 HB0 HB1 HC1
  go_wp2_with fail
  clear a0 a1 g0 g1 hz hzw
  refine (HC2.out _).mono ?_
  rintro r u3 ⟨a, n, c, rfl, hb3, hch⟩
  have hB3 := HX1.out.lt
  have HCH : Hid (s3.2 = 0 → ∃ ls : List (List Value), n = ls.length ∧ Inn ((w1.setCell ⟨w.heap.size, 0, none⟩ (.string (bs s1.1))).setCell ⟨w.heap.size, 1, none⟩ (.int .i64 (s1.2 : Nat))).heap.size none u3 (fun W => VRow 3 W a ls ∧ ChIs W ls m)) := Lib.hid hch.out
  have HB3 := Lib.hid (HX1.out.keep hb3)
  have HX3 := Lib.hid (HB3.out.set s3)
  have HT3 := Lib.hid ((touch_in w u3 (.string (bs s3.1)) (.int .i64 (s3.2 : Nat))).mono (T := fun b => b ≤ w.heap.size + 2) fun k _ e => by omega)
  have HSZ := Lib.hid hB3
  have a0 := HB3.out.d.i0
  have a1 := HB3.out.d.i1
  have g0 := HB3.out.d.fr w.heap.size 0 (by omega) (by omega)
  have g1 := HB3.out.d.fr w.heap.size 1 (by omega) (by omega)
  have hz := HB3.out.lt
  have hzw : w.heap.size < u3.heap.size := by omega
  clear hb3 hch hB3 HX1 HB3 HC2
  go_wp2_with fail
  clear a0 a1 g0 g1 hz hzw
  refine (HC3.out _).mono ?_
  rintro r u4 ⟨rfl, hb4⟩
  have HB4 := Lib.hid (HX3.out.keep hb4)
  have HX4 := Lib.hid (HB4.out.set s4)
  have HT4 := Lib.hid ((HT3.out.trans (touch_of_below hb4)).trans ((touch_in w u4 (.string (bs s4.1)) (.int .i64 (s4.2 : Nat))).mono (T := fun b => b ≤ w.heap.size + 2) fun k _ e => by omega))
  have a0 := HB4.out.d.i0
  have a1 := HB4.out.d.i1
  have g0 := HB4.out.d.fr w.heap.size 0 (by omega) (by omega)
  have g1 := HB4.out.d.fr w.heap.size 1 (by omega) (by omega)
  have hz := HB4.out.lt
  have hzw : w.heap.size < u4.heap.size := by omega
  clear hb4 HX3 HB4 HC3 HT3
  go_wp2_with fail
  clear a0 a1 g0 g1 hz hzw
  refine (HC4.out _).mono ?_
  rintro r u5 ⟨rfl, hb5⟩
  have HB5 := Lib.hid (HX4.out.keep hb5)
  have HX5 := Lib.hid (HB5.out.set s5)
  have HT5 := Lib.hid ((HT4.out.trans (touch_of_below hb5)).trans ((touch_in w u5 (.string (bs s5.1)) (.int .i64 (s5.2 : Nat))).mono (T := fun b => b ≤ w.heap.size + 2) fun k _ e => by omega))
  have a0 := HB5.out.d.i0
  have a1 := HB5.out.d.i1
  have g0 := HB5.out.d.fr w.heap.size 0 (by omega) (by omega)
  have g1 := HB5.out.d.fr w.heap.size 1 (by omega) (by omega)
  have hz := HB5.out.lt
  have hzw : w.heap.size < u5.heap.size := by omega
  clear hb5 HX4 HB5 HC4 HT4
  go_wp2_with fail
  clear a0 a1 g0 g1 hz hzw
  refine (HC5.out _).mono ?_
  rintro r u6 ⟨rfl, hb6⟩
  have HB6 := Lib.hid (HX5.out.keep hb6)
  have HX6 := Lib.hid (HB6.out.set s6)
  have HT6 := Lib.hid ((HT5.out.trans (touch_of_below hb6)).trans ((touch_in w u6 (.string (bs s6.1)) (.int .i64 (s6.2 : Nat))).mono (T := fun b => b ≤ w.heap.size + 2) fun k _ e => by omega))
  have a0 := HB6.out.d.i0
  have a1 := HB6.out.d.i1
  have g0 := HB6.out.d.fr w.heap.size 0 (by omega) (by omega)
  have g1 := HB6.out.d.fr w.heap.size 1 (by omega) (by omega)
  have hz := HB6.out.lt
  have hzw : w.heap.size < u6.heap.size := by omega
  obtain ⟨ls, hls⟩ : ∃ ls : List (List Value), (s3.2 = 0 → n = ls.length) ∧ (s3.2 = 0 → Inn ((w1.setCell ⟨w.heap.size, 0, none⟩ (.string (bs s1.1))).setCell ⟨w.heap.size, 1, none⟩ (.int .i64 (s1.2 : Nat))).heap.size none u3 (fun W => VRow 3 W a ls ∧ ChIs W ls m)) := by
    by_cases he : s3.2 = 0
    · obtain ⟨ls, h1, h2⟩ := HCH.out he
      exact ⟨ls, fun _ => h1, fun _ => h2⟩
    · exact ⟨[], fun e => absurd e he, fun e => absurd e he⟩
  have HLS : Hid (s6.2 = 0 → n = ls.length) := Lib.hid (fun e => hls.1 (HMONO.out e))
  have hP6 : ((u6.setCell ⟨w.heap.size, 0, none⟩ (.string (bs s6.1))).setCell ⟨w.heap.size, 1, none⟩ (.int .i64 (s6.2 : Nat))).heap.size = u6.heap.size := by simp
  have HM := Lib.hid (p3_start (n := n) (c := c) (t := (t : Int)) (tk := (tk : Int)) (dl := (dl : Int)) HX6.out hP6.symm HSZ.out (fun e => hls.2 (HMONO.out e)) HT6.out)
  clear hb6 HX5 HB6 HC5 HT5 HX6 HT6 hls HCH HSZ HMONO hP6
  go_wp2
  clear a0 a1 g0 g1 hz hzw
  generalize ((u6.setCell ⟨w.heap.size, 0, none⟩ (.string (bs s6.1))).setCell ⟨w.heap.size, 1, none⟩ (.int .i64 (s6.2 : Nat))).alloc (.cells #[.int .i64 (t : Int), .slice a n c, .int .i64 (tk : Int), .int .i64 (dl : Int), .slice none 0 0] 46) = W7 at HM ⊢
  generalize u6.heap.size = C at HM ⊢
  go_loopw [10] (fun i wr => ∃ (j : Nat) (a2 : Option Addr) (c2 : Nat) (ls2 : List (List Value)), j ≤ n6 ∧ i = .int .i64 j ∧ Hid (ls2.length = j ∧ Ph3 w C (runS plyS j s6).1 (t : Int) a n c ls m (tk : Int) (dl : Int) a2 c2 ls2 (runS plyS j s6).2 wr)) (fun i _ => n6 - (intOf i).toNat)
  case atStart => exact ⟨0, none, 0, [], by omega, rfl, Lib.hid ⟨rfl, HM.out⟩⟩
  case round =>
    clear HM
    obtain ⟨j, a2, c2, ls2, hj, rfl, HM⟩ := hrel
    have hi0 : (0 : Int) ≤ (j : Int) := by omega
    have hsj := HST.out j hj
    have hok := HOK.out j
    have HFIN : Hid ((j = n6 ∨ (runS plyS j s6).1.2 ≠ 0) → T.1 = (runS plyS j s6).1 ∧ recT T = if (runS plyS j s6).1.2 = 0 then ⟨(t : Int), m, (tk : Int), (dl : Int), (runS plyS j s6).2⟩ else ⟨0, [], 0, 0, []⟩) := Lib.hid (fun hh => by
      have hq : (runS plyS n6 s6).1 = (runS plyS j s6).1 := by
        rcases hh with e | e
        · rw [e]
        · exact hsj e
      rw [HR.out]
      refine ⟨hq, ?_⟩
      show recT ((runS plyS n6 s6).1, ⟨(t : Int), m, (tk : Int), (dl : Int), (runS plyS n6 s6).2⟩) = _
      unfold recT
      simp only [hq]
      split
      · rename_i hz
        rcases hh with e | e
        · rw [e]
        · exact absurd hz e
      · rfl)
    have HN : Hid (runS plyS (j + 1) s6 = ((plyS (runS plyS j s6).1).1, (runS plyS j s6).2 ++ [(plyS (runS plyS j s6).1).2])) := Lib.hid rfl
    have HL6 : Hid ((runS plyS j s6).1.2 = 0 → n = ls.length) := Lib.hid (fun e => HLS.out (by
      rcases Classical.em (s6.2 = 0) with e6 | e6
      · exact e6
      · have := run_stuckG (fun s hs => plyS_stOk hs) (fun s hs he => plyC.stuck hs he) (HOK.out 0) (Nat.zero_le j) (show (runS plyS 0 s6).1.2 ≠ 0 from e6)
        rw [show runS plyS j (runS plyS 0 s6).1 = runS plyS j s6 from rfl] at this
        rw [this] at e
        exact absurd e e6))
    clear hsj
    generalize runS plyS j s6 = q at HM HN hok HFIN HL6
    obtain ⟨⟨lq, eq⟩, V⟩ := q
    simp only at HM HN hok HFIN HL6
    have i0 := HM.out.2.d.d.i0
    have i1 := HM.out.2.d.d.i1
    have hz := HM.out.2.d.lt
    have hzw : w.heap.size < wr.heap.size := by omega
    have hCl := HM.out.2.lt
    by_cases hgo : j < n6 ∧ eq = 0
    · obtain ⟨hlt, rfl⟩ := hgo
      have hi1 : (j : Int) < (n6 : Int) := by omega
      have hV : plyS (lq, 0) = ((batchS (countS (lq, 0) 31).1).1, ⟨((countS (lq, 0) 31).2 : Int), if (batchS (countS (lq, 0) 31).1).1.2 = 0 then (batchS (countS (lq, 0) 31).1).2 else []⟩) := rfl
      have hA := fun W => refTakeCount_any lq 0 31 W (by decide) (by decide) hok.2 hok.1
      have o1 := countS_stOk (most := 31) hok
      generalize countS (lq, 0) 31 = t8 at hA hV o1
      obtain ⟨s8, p8⟩ := t8
      simp only [inV] at hA
      simp only at hV o1
      have hY := fun W => refOrdRead_any s8 W o1
      unfold RoPost at hY
      generalize batchS s8 = t9 at hY hV
      obtain ⟨s9, l9⟩ := t9
      simp only at hY hV
      rw [hV] at HN
      simp only at HN
      have HA := Lib.hid hA
      have HY := Lib.hid hY
      clear hA hY hV o1 hok HFIN HL6
      go_wp2_with fail
      clear i0 i1 hz hzw hCl
      refine (HA.out _).mono ?_
      rintro r v1 ⟨rfl, hb⟩
      have HM1 := Lib.hid (HM.out.2.keep hb)
      have HL1 := Lib.hid HM.out.1
      clear hb HA HM
      go_wp2_with fail
      have hA1 := bel_alloc (Below.refl _ v1) (.cells #[.string (bs s8.1), .int .i64 (s8.2 : Nat)] 57)
      have HM1 := Lib.hid (HM1.out.keep hA1)
      generalize v1.alloc (.cells #[.string (bs s8.1), .int .i64 (s8.2 : Nat)] 57) = V1 at HM1 hA1 ⊢
      refine (HY.out _).mono ?_
      rintro r v2 ⟨av, nv, cv, rfl, hb, h9⟩
      have hA2 := bel_alloc (Below.refl _ v2) (.cells #[.string (bs s9.1), .int .i64 (s9.2 : Nat)] 57)
      have HM2 := Lib.hid (HM1.out.keep (hb.trans (hA2.mono hb.size)))
      have HX2 := Lib.hid (HM2.out.set s9)
      have HNV : Hid (s9.2 = 0 → InnS (SS w C) a2 (((v2.alloc (.cells #[.string (bs s9.1), .int .i64 (s9.2 : Nat)] 57)).setCell ⟨w.heap.size, 0, none⟩ (.string (bs s9.1))).setCell ⟨w.heap.size, 1, none⟩ (.int .i64 (s9.2 : Nat))) (fun W => PlV W [.int .i64 (p8 : Int), .slice av nv cv] ⟨(p8 : Int), if s9.2 = 0 then l9 else []⟩)) := Lib.hid (fun e9 => by
        obtain ⟨e1, e2, e3⟩ := h9.out e9
        rw [if_pos e9]
        subst e1
        have h1 := HM1.out.lt
        have h2 := HM1.out.d.lt
        exact plNew (wr := V1) e2 e3 HM1.out.row.lt (fun k hk => by rcases hk with hk | hk <;> omega) ((touch_of_below hA2).trans ((touch_in w _ (.string (bs s9.1)) (.int .i64 (s9.2 : Nat))).mono fun k _ e => .inl (by omega))))
      have i0 := HM2.out.d.d.i0
      have i1 := HM2.out.d.d.i1
      have g0 := HM2.out.d.d.fr w.heap.size 0 (by omega) (by omega)
      have g1 := HM2.out.d.d.fr w.heap.size 1 (by omega) (by omega)
      have hzw := Nat.lt_of_succ_lt (Nat.lt_of_succ_lt HM2.out.d.lt)
      have d0 : (v2.alloc (.cells #[.string (bs s9.1), .int .i64 (s9.2 : Nat)] 57)).cell? ⟨v2.heap.size, 0, none⟩ = some (.string (bs s9.1)) := new_cell rfl rfl
      have d1 : (v2.alloc (.cells #[.string (bs s9.1), .int .i64 (s9.2 : Nat)] 57)).cell? ⟨v2.heap.size, 1, none⟩ = some (.int .i64 (s9.2 : Nat)) := new_cell rfl rfl
      have c4 : (v2.alloc (.cells #[.string (bs s9.1), .int .i64 (s9.2 : Nat)] 57)).cell? ⟨C, 4, none⟩ = some (.slice a2 ls2.length c2) := HM2.out.c 4 (by simp)
      rw [HL1.out] at c4
      have fc4 := HM2.out.fc 4
      have hCl := HM2.out.lt
      have hClo := HM2.out.lo
      have hCn : ¬ C = w.heap.size := by omega
      have hCn' : ¬ w.heap.size = C := by omega
      obtain ⟨a5, c5, w8, hrun, e5, f5, hm5⟩ := HX2.out.step (p8 : Int) av nv cv ⟨(p8 : Int), if s9.2 = 0 then l9 else []⟩ HNV.out j HL1.out (by omega)
      rw [show (((v2.alloc (.cells #[.string (bs s9.1), .int .i64 (s9.2 : Nat)] 57)).setCell ⟨w.heap.size, 0, none⟩ (.string (bs s9.1))).setCell ⟨w.heap.size, 1, none⟩ (.int .i64 (s9.2 : Nat))).heap.size = v2.heap.size + 1 by simp] at hrun
      have HRUN := Lib.hid hrun
      have HM5 := Lib.hid hm5
      have hC5 := block_lt_of_cell e5
      simp only at hC5
      clear hb h9 hA1 hA2 HY HM1 HM2 HX2 HNV hrun hm5
      go_wp2_with (at_builtin; refine wpList_append_run _ rfl (.tmp 68) (.tmp 72) 44 44 rfl _ _ rfl rfl (.slice a5 (j + 1) c5) w8 HRUN.out ?_)
      go_roundw
      case rel => exact ⟨j + 1, a5, c5, _, by omega, by go_num, Lib.hid (by rw [HN.out]; exact ⟨by rw [List.length_append, HL1.out]; rfl, HM5.out⟩)⟩
      case measure => simp [intOf] <;> omega
    · have hex : j = n6 ∨ eq ≠ 0 := by omega
      obtain ⟨hT1, hT2⟩ := HFIN.out hex
      have hClo := HM.out.2.lo
      have c0 : wr.cell? ⟨C, 0, none⟩ = some (.int .i64 (t : Int)) := HM.out.2.c 0 (by simp)
      have c1 : wr.cell? ⟨C, 1, none⟩ = some (.slice a n c) := HM.out.2.c 1 (by simp)
      have c2' : wr.cell? ⟨C, 2, none⟩ = some (.int .i64 (tk : Int)) := HM.out.2.c 2 (by simp)
      have c3 : wr.cell? ⟨C, 3, none⟩ = some (.int .i64 (dl : Int)) := HM.out.2.c 3 (by simp)
      have c4 : wr.cell? ⟨C, 4, none⟩ = some (.slice a2 ls2.length c2) := HM.out.2.c 4 (by simp)
      have p0 := HM.out.2.d.d.s0
      have p1 := HM.out.2.d.d.s1
      have q0 : wr.cell? ⟨w.heap.size + 1 + 1, 0, none⟩ = some (.int .i64 0) := HM.out.2.d.t 0 (by decide)
      have q1 : wr.cell? ⟨w.heap.size + 1 + 1, 1, none⟩ = some (.slice none 0 0) := HM.out.2.d.t 1 (by decide)
      have q2 : wr.cell? ⟨w.heap.size + 1 + 1, 2, none⟩ = some (.int .i64 0) := HM.out.2.d.t 2 (by decide)
      have q3 : wr.cell? ⟨w.heap.size + 1 + 1, 3, none⟩ = some (.int .i64 0) := HM.out.2.d.t 3 (by decide)
      have q4 : wr.cell? ⟨w.heap.size + 1 + 1, 4, none⟩ = some (.slice none 0 0) := HM.out.2.d.t 4 (by decide)
      have d0 := HM.out.2.d.d.fr (w.heap.size + 1) 0 (by omega) (by omega)
      have d1 := HM.out.2.d.d.fr (w.heap.size + 1) 1 (by omega) (by omega)
      have z0 : wr.frozen? ⟨w.heap.size + 1 + 1, 0, none⟩ = false := HM.out.2.d.ft 0
      have z1 : wr.frozen? ⟨w.heap.size + 1 + 1, 1, none⟩ = false := HM.out.2.d.ft 1
      have z2 : wr.frozen? ⟨w.heap.size + 1 + 1, 2, none⟩ = false := HM.out.2.d.ft 2
      have z3 : wr.frozen? ⟨w.heap.size + 1 + 1, 3, none⟩ = false := HM.out.2.d.ft 3
      have z4 : wr.frozen? ⟨w.heap.size + 1 + 1, 4, none⟩ = false := HM.out.2.d.ft 4
      have hs8 : w.heap.size + 1 < wr.heap.size := by omega
      have hs9 : w.heap.size + 1 + 1 < wr.heap.size := by omega
      have hc1 : ¬ C = w.heap.size + 1 := by omega
      have hc1' : ¬ w.heap.size + 1 = C := by omega
      have hc2 : ¬ C = w.heap.size + 1 + 1 := by omega
      have hc2' : ¬ w.heap.size + 1 + 1 = C := by omega
      have HBW := Lib.hid (fun y0 y1 u v z y x => HM.out.2.d.res y0 y1 u v z y x)
      have HF1 := Lib.hid hT1
      by_cases he : eq = 0
      · subst he
        obtain rfl : j = n6 := by omega
        have hi1 : (j : Int) ≤ (j : Int) := by omega
        rw [if_pos rfl] at hT2
        have HF2 := Lib.hid hT2
        have HAC := Lib.hid (fun y0 y1 u v z y x => HM.out.2.fin y0 y1 u v z y x)
        have HL7 := Lib.hid (HL6.out rfl)
        clear hok HN hT1 hT2 HFIN HR HOK HST HM HL6 HLS hex hgo
        go_wp2_with fail
        go_region
        all_goals
          go_wp2
          refine bodyPost_ret (v := .tuple #[.agg #[.string (bs lq), .int .i64 (0 : Nat)], .agg #[.int .i64 (t : Int), .slice a n c, .int .i64 (tk : Int), .int .i64 (dl : Int), .slice a2 ls2.length c2]]) (by simp [results, Try.results22, go_sem, p0, p1, q0, q1, q2, q3, q4]) rfl ?_
          have HX := HF.out (t : Int) a c ls m (tk : Int) (dl : Int) a2 c2 ls2 V n ls2.length _ HF2.out HL7.out rfl (HBW.out (.string (bs lq)) (.int .i64 (0 : Nat)) (.int .i64 (t : Int)) (.slice a n c) (.int .i64 (tk : Int)) (.int .i64 (dl : Int)) (.slice a2 ls2.length c2)).drew ((HAC.out (.string (bs lq)) (.int .i64 (0 : Nat)) (.int .i64 (t : Int)) (.slice a n c) (.int .i64 (tk : Int)) (.int .i64 (dl : Int)) (.slice a2 ls2.length c2)).low (Touch.refl _ _).drew)
          rw [HF1.out] at HX
          exact HX
      · have heb : ((eq : Int) == 0) = false := by rw [beq_eq_false_iff_ne]; omega
        have heb2 : ((eq : Int) != 0) = true := by simp; omega
        have hei : ¬ (eq : Int) = 0 := by omega
        rw [if_neg he] at hT2
        have HF2 := Lib.hid hT2
        clear hok HN hT1 hT2 HFIN HR HOK HST HM HL6 HLS hex hgo he
        by_cases hlt : j < n6
        · have hi1 : (j : Int) < (n6 : Int) := by omega
          go_wp2_with fail
          · refine bodyPost_ret (v := .tuple #[.agg #[.string (bs lq), .int .i64 (eq : Nat)], .agg #[.int .i64 0, .slice none 0 0, .int .i64 0, .int .i64 0, .slice none 0 0]]) (by simp [results, Try.results22, go_sem, p0, p1, q0, q1, q2, q3, q4]) rfl ?_
            have HX := HF.out 0 none 0 [] [] 0 0 none 0 [] [] 0 0 _ HF2.out rfl rfl (HBW.out (.string (bs lq)) (.int .i64 (eq : Nat)) (.int .i64 0) (.slice none 0 0) (.int .i64 0) (.int .i64 0) (.slice none 0 0)) (fun W _ => nil_recIs W)
            rw [HF1.out] at HX
            exact HX
        · have hi1 : (n6 : Int) ≤ (j : Int) := by omega
          go_wp2_with fail
          · refine bodyPost_ret (v := .tuple #[.agg #[.string (bs lq), .int .i64 (eq : Nat)], .agg #[.int .i64 0, .slice none 0 0, .int .i64 0, .int .i64 0, .slice none 0 0]]) (by simp [results, Try.results22, go_sem, p0, p1, q0, q1, q2, q3, q4]) rfl ?_
            have HX := HF.out 0 none 0 [] [] 0 0 none 0 [] [] 0 0 _ HF2.out rfl rfl (HBW.out (.string (bs lq)) (.int .i64 (eq : Nat)) (.int .i64 0) (.slice none 0 0) (.int .i64 0) (.int .i64 0) (.slice none 0 0)) (fun W _ => nil_recIs W)
            rw [HF1.out] at HX
            exact HX
end Go.Proofs.Ytcbadcbnknmdnaa
