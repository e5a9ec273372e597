/-
  Layer 20: the document's own: changes out of bytes.
-/
import Derived.Test.YtcbadcbnknmdnaaRec2
import Derived.Test.YtcbadcbnknmdnaaRec4
namespace Go.Proofs.Ytcbadcbnknmdnaa
open Go.RowKit
set_option linter.unusedVariables false

theorem dchgTy20 : VTy 105 3 (.agg #[.int .i64 0, .int .i64 0, .slice none 0 0]) 40 := ⟨by kernel_rfl, rfl, by decide, by decide⟩
theorem chNew {B : Nat} {a av : Option Addr} {wr w4 W : World} {k p : Int} {V : List Int} {cv : Nat} (hact : ActL w4 (.slice av V.length cv) V) (hfr : ∀ x, av = some x → wr.heap.size ≤ x.block) (hold : ∀ x, a = some x → x.block < wr.heap.size) (hB : B ≤ wr.heap.size) (ht : Touch (fun b => b < B) w4 W) : Inn B a W (fun W => ChV W [.int .i64 k, .int .i64 p, .slice av V.length cv] ⟨k, p, V⟩) :=
  (show Inn B a w4 (fun W => ChV W [.int .i64 k, .int .i64 p, .slice av V.length cv] ⟨k, p, V⟩) from fun W hW => ⟨av, cv, rfl, act_touch hact hW (fun h0 x hx e => by
    have h1 := hfr x hx
    rcases e with e | e
    · omega
    · cases a with
      | none => simp at e
      | some y => simp at e; have := hold y rfl; omega)⟩).low ht
theorem ch_step {w W : World} {st : St} {a av : Option Addr} {c cv : Nat} {ls : List (List Value)} {m : List Chg} {k p : Int} {V : List Int} (hD : D1 w st W) (hr : OwnV 105 3 (w.heap.size + 2) a c ls W) (hi : Inn (w.heap.size + 2) a W (fun W => ChIs W ls m)) (hn : Inn (w.heap.size + 2) a W (fun W => ChV W [.int .i64 k, .int .i64 p, .slice av V.length cv] ⟨k, p, V⟩)) (N : Nat) (hN : ls.length = N) (hl : N ≤ 1000) :
    ∃ a' c' w', (Builtin.append_ #[42, 42] 42 #[.slice a N c, .slice (some ⟨W.heap.size, 0, none⟩) 1 1]).run Try.prog (W.alloc (.cells #[.int .i64 k, .int .i64 p, .slice av V.length cv] 105)) = .ok (.slice a' (N + 1) c') w' ∧ D1 w st w' ∧ OwnV 105 3 (w.heap.size + 2) a' c' (ls ++ [[.int .i64 k, .int .i64 p, .slice av V.length cv]]) w' ∧ Inn (w.heap.size + 2) a' w' (fun W => ChIs W (ls ++ [[.int .i64 k, .int .i64 p, .slice av V.length cv]]) (m ++ [⟨k, p, V⟩])) := by
  have hx : ([.int .i64 k, .int .i64 p, .slice av V.length cv] : List Value).length = 3 ∧ ∀ u ∈ ([.int .i64 k, .int .i64 p, .slice av V.length cv] : List Value), u.oneCell' = true := ⟨rfl, fun u hu => by
    simp only [List.mem_cons, List.not_mem_nil, or_false] at hu
    rcases hu with rfl | rfl | rfl <;> rfl⟩
  have hlt := hD.lt
  obtain ⟨a', c', w', h1, h2, h3, hf⟩ := hr.one' (ty := 42) dchgTy20 Try.underlying42 (by omega) _ hx (by omega) N hN _ rfl
  have hS : ∀ z, a.map (·.block) = some z → w.heap.size + 2 ≤ z := fun z e1 => map_none (P := fun z => w.heap.size + 2 ≤ z) hr.2 _ e1
  exact ⟨a', c', w', h1, hD.touch h3 (fun q e => by have := hS q e; omega), h2, ((hi.and hn).app h3 hf).imp fun W hW => hW.1.snoc hW.2⟩
def RhPost (w : World) (T : St × List Chg) (r : Ending) (w' : World) : Prop := ∃ a n c, r = .returned (.tuple #[.agg #[.string (bs T.1.1), .int .i64 (T.1.2 : Nat)], .slice a n c]) ∧ Below w.heap.size w w' ∧ Hid (T.1.2 = 0 → ∃ ls : List (List Value), n = ls.length ∧ Inn w.heap.size none w' (fun W => VRow 3 W a ls ∧ ChIs W ls T.2))
set_option maxRecDepth 100000 in
set_option maxHeartbeats 4000000 in
theorem refChanges_any (st : St) (w : World) (h : StOk st) : Calls Try.prog 53 #[.agg #[.string (bs st.1), .int .i64 (st.2 : Nat)]] w (RhPost w (chsS st)) := by
  have hC1 := fun W => refTakeCount_any st.1 st.2 8 W (by decide) (by decide) h.2 h.1
  have k1 := countS_stOk (most := 8) h
  have hle := countS_le st 8
  have hR : chsS st = runS chyS (countS st 8).2 (countS st 8).1 := rfl
  have HF : Hid (∀ a n c W, Below w.heap.size w W → ((chsS st).1.2 = 0 → ∃ ls : List (List Value), n = ls.length ∧ Inn w.heap.size none W (fun W => VRow 3 W a ls ∧ ChIs W ls (chsS st).2)) → RhPost w (chsS st) (.returned (.tuple #[.agg #[.string (bs (chsS st).1.1), .int .i64 ((chsS st).1.2 : Nat)], .slice a n c])) W) := Lib.hid fun a n c W h1 h2 => ⟨a, n, c, rfl, h1, Lib.hid h2⟩
  generalize RhPost w (chsS st) = Post at HF ⊢
  generalize chsS st = T at HF hR
  have HB0 := Lib.hid (D1.new w st)
  obtain ⟨l0, e0⟩ := st
  simp only at hC1 hR HB0 hle ⊢
  generalize countS (l0, e0) 8 = t1 at hC1 hR k1 hle
  obtain ⟨s1, n⟩ := t1
  simp only [inV] at hC1
  simp only at hR k1 hle
  have HC1 := Lib.hid hC1
  have HR := Lib.hid hR
  have HOK := Lib.hid (fun j => runS_stOk (fun s hs => chyS_stOk hs) j k1)
  have HST := Lib.hid (fun j (hj : j ≤ n) => run_stuckG (fun s hs => chyS_stOk hs) (fun s hs he => chyC.stuck hs he) k1 hj)
  clear hC1 hR h k1
  go_enter Try.func53, Try.ntmps53
  go_wp2_with fail
  refine (HC1.out _).mono ?_
  rintro r w1 ⟨rfl, hb1⟩
  have HB1 := Lib.hid (HB0.out.keep hb1)
  have HX1 := Lib.hid (HB1.out.set s1)
  have a0 := HB1.out.i0
  have a1 := HB1.out.i1
  have g0 := HB1.out.fr w.heap.size 0 (by omega) (by omega)
  have g1 := HB1.out.fr w.heap.size 1 (by omega) (by omega)
  have hz := HB1.out.lt
  have hzw : w.heap.size < w1.heap.size := by omega
  have HM : Hid (D1 w s1 (((w1.setCell ⟨w.heap.size, 0, none⟩ (.string (bs s1.1))).setCell ⟨w.heap.size, 1, none⟩ (.int .i64 (s1.2 : Nat))).alloc (.cells #[] 105)) ∧ OwnV 105 3 (w.heap.size + 2) (some ⟨w1.heap.size, 0, none⟩) 0 [] (((w1.setCell ⟨w.heap.size, 0, none⟩ (.string (bs s1.1))).setCell ⟨w.heap.size, 1, none⟩ (.int .i64 (s1.2 : Nat))).alloc (.cells #[] 105)) ∧ Inn (w.heap.size + 2) (some ⟨w1.heap.size, 0, none⟩) (((w1.setCell ⟨w.heap.size, 0, none⟩ (.string (bs s1.1))).setCell ⟨w.heap.size, 1, none⟩ (.int .i64 (s1.2 : Nat))).alloc (.cells #[] 105)) (fun W => ChIs W [] [])) := Lib.hid (by
    have hP : ((w1.setCell ⟨w.heap.size, 0, none⟩ (.string (bs s1.1))).setCell ⟨w.heap.size, 1, none⟩ (.int .i64 (s1.2 : Nat))).heap.size = w1.heap.size := by simp
    have hn := NewV.made 105 3 HX1.out.bel w1.heap.size hP.symm
    exact ⟨HX1.out.keep (bel_alloc (Below.refl _ _) _), ⟨hn.1.1, fun x hx => by cases hx; show w.heap.size + 2 ≤ w1.heap.size; omega⟩, fun W _ => ChIs.nil W⟩)
  clear hb1 HB0 HB1 HC1 HX1
  go_wp2
  clear a0 a1 g0 g1 hz hzw
  generalize ((w1.setCell ⟨w.heap.size, 0, none⟩ (.string (bs s1.1))).setCell ⟨w.heap.size, 1, none⟩ (.int .i64 (s1.2 : Nat))).alloc (.cells #[] 105) = W2 at HM ⊢
  generalize w1.heap.size = G at HM ⊢
  go_loopw [5, 6] (fun v i wr => ∃ (j : Nat) (a : Option Addr) (c : Nat) (ls : List (List Value)), j ≤ n ∧ i = .int .i64 j ∧ v = .slice a j c ∧ Hid (ls.length = j ∧ D1 w (runS chyS j s1).1 wr ∧ OwnV 105 3 (w.heap.size + 2) a c ls wr ∧ Inn (w.heap.size + 2) a wr (fun W => ChIs W ls (runS chyS j s1).2))) (fun _ i _ => n - (intOf i).toNat)
  case atStart => exact ⟨0, _, _, [], by omega, rfl, rfl, Lib.hid ⟨rfl, HM.out⟩⟩
  case round =>
    clear HM
    obtain ⟨j, a, c, ls, hj, rfl, rfl, HM⟩ := hrel
    have hi0 : (0 : Int) ≤ (j : Int) := by omega
    have hln := runS_len chyS j s1
    have hsj := HST.out j hj
    have hok := HOK.out j
    have HFIN : Hid ((j = n ∨ (runS chyS j s1).1.2 ≠ 0) → T.1 = (runS chyS j s1).1 ∧ (T.1.2 = 0 → T.2 = (runS chyS j s1).2)) := Lib.hid (fun hh => by
      have hq : (runS chyS n s1).1 = (runS chyS j s1).1 := by
        rcases hh with e | e
        · rw [e]
        · exact hsj e
      rw [HR.out]
      refine ⟨hq, fun hz => ?_⟩
      rw [hq] at hz
      rcases hh with e | e
      · rw [e]
      · exact absurd hz e)
    have HN : Hid (runS chyS (j + 1) s1 = ((chyS (runS chyS j s1).1).1, (runS chyS j s1).2 ++ [(chyS (runS chyS j s1).1).2])) := Lib.hid rfl
    clear hsj
    generalize runS chyS j s1 = q at HM HN hln hok HFIN
    obtain ⟨⟨lq, eq⟩, V⟩ := q
    simp only at HM HN hln hok HFIN
    have i0 := HM.out.2.1.i0
    have i1 := HM.out.2.1.i1
    have g0 := HM.out.2.1.fr w.heap.size 0 (by omega) (by omega)
    have g1 := HM.out.2.1.fr w.heap.size 1 (by omega) (by omega)
    have hz := HM.out.2.1.lt
    have hzw : w.heap.size < wr.heap.size := by omega
    by_cases hgo : j < n ∧ eq = 0
    · obtain ⟨hlt, rfl⟩ := hgo
      have hi1 : (j : Int) < (n : Int) := by omega
      have hA := fun W => refReadChange_any (lq, 0) W hok
      unfold RrcPost at hA
      have hV : chyS (lq, 0) = ((chgS (lq, 0)).1, chgT (chgS (lq, 0))) := rfl
      generalize chgT (chgS (lq, 0)) = g at hA hV
      generalize (chgS (lq, 0)).1 = z5 at hA hV
      obtain ⟨gk, gp, gv⟩ := g
      rw [hV] at HN
      unfold chV at hA
      simp only at hA HN
      have HA := Lib.hid hA
      clear hA hV hln hok HFIN
      go_wp2_with fail
      clear i0 i1 g0 g1 hz hzw
      refine (HA.out _).mono ?_
      rintro r u4 ⟨av, cv, rfl, hb, h4⟩
      have HL := Lib.hid HM.out.1
      have hsz0 := HM.out.2.1.lt
      have hsz4 := hb.size
      have hbel := bel_alloc (bel_alloc (Below.refl _ u4) (.cells #[.string (bs z5.1), .int .i64 (z5.2 : Nat)] 57)) (.cells #[.int .i64 gk, .int .i64 gp, .slice av gv.length cv] 105)
      have hbel2 := hb.trans (hbel.mono hb.size)
      have HN5 : Hid (Inn (w.heap.size + 2) a ((u4.alloc (.cells #[.string (bs z5.1), .int .i64 (z5.2 : Nat)] 57)).alloc (.cells #[.int .i64 gk, .int .i64 gp, .slice av gv.length cv] 105)) (fun W => ChV W [.int .i64 gk, .int .i64 gp, .slice av gv.length cv] ⟨gk, gp, gv⟩)) := Lib.hid (chNew (wr := wr) h4.out.1 h4.out.2 HM.out.2.2.1.lt (by omega) (touch_of_below hbel))
      have HM5 := Lib.hid (And.intro (HM.out.2.1.keep hbel2) (And.intro (HM.out.2.2.1.touch (touch_of_below (S := fun _ => False) hbel2) (fun _ _ => id)) (HM.out.2.2.2.low (touch_of_below hbel2))))
      have e9 : u4.heap.size + 1 = (u4.alloc (.cells #[.string (bs z5.1), .int .i64 (z5.2 : Nat)] 57)).heap.size := by simp
      have d0 : ((u4.alloc (.cells #[.string (bs z5.1), .int .i64 (z5.2 : Nat)] 57)).alloc (.cells #[.int .i64 gk, .int .i64 gp, .slice av gv.length cv] 105)).cell? ⟨u4.heap.size, 0, none⟩ = some (.string (bs z5.1)) := alloc_cell (new_cell rfl rfl) _
      have d1 : ((u4.alloc (.cells #[.string (bs z5.1), .int .i64 (z5.2 : Nat)] 57)).alloc (.cells #[.int .i64 gk, .int .i64 gp, .slice av gv.length cv] 105)).cell? ⟨u4.heap.size, 1, none⟩ = some (.int .i64 (z5.2 : Nat)) := alloc_cell (new_cell rfl rfl) _
      have v0 : ((u4.alloc (.cells #[.string (bs z5.1), .int .i64 (z5.2 : Nat)] 57)).alloc (.cells #[.int .i64 gk, .int .i64 gp, .slice av gv.length cv] 105)).cell? ⟨u4.heap.size + 1, 0, none⟩ = some (.int .i64 gk) := new_cell e9 rfl
      have v1 : ((u4.alloc (.cells #[.string (bs z5.1), .int .i64 (z5.2 : Nat)] 57)).alloc (.cells #[.int .i64 gk, .int .i64 gp, .slice av gv.length cv] 105)).cell? ⟨u4.heap.size + 1, 1, none⟩ = some (.int .i64 gp) := new_cell e9 rfl
      have v2 : ((u4.alloc (.cells #[.string (bs z5.1), .int .i64 (z5.2 : Nat)] 57)).alloc (.cells #[.int .i64 gk, .int .i64 gp, .slice av gv.length cv] 105)).cell? ⟨u4.heap.size + 1, 2, none⟩ = some (.slice av gv.length cv) := new_cell e9 rfl
      have hneO : ¬ u4.heap.size + 1 = w.heap.size := by omega
      have hneO' : ¬ w.heap.size = u4.heap.size + 1 := by omega
      have i0 := HM5.out.1.i0
      have i1 := HM5.out.1.i1
      have g0 := HM5.out.1.fr w.heap.size 0 (by omega) (by omega)
      have g1 := HM5.out.1.fr w.heap.size 1 (by omega) (by omega)
      have hzw := Nat.lt_of_succ_lt HM5.out.1.lt
      clear hb h4 hbel hbel2 HA HM e9 hsz0 hsz4
      go_upto_region 7 with (fail)
      generalize (u4.alloc (.cells #[.string (bs z5.1), .int .i64 (z5.2 : Nat)] 57)).alloc (.cells #[.int .i64 gk, .int .i64 gp, .slice av gv.length cv] 105) = W5 at d0 d1 v0 v1 v2 HM5 HN5 i0 i1 g0 g1 hzw ⊢
      generalize u4.heap.size + 1 = OB at v0 v1 v2 hneO hneO' ⊢
      generalize u4.heap.size = DB at d0 d1 ⊢
      have hDB := block_lt_of_cell d0
      have hOB := block_lt_of_cell v0
      simp only at hDB hOB
      have ht6 := touch_in w W5 (.string (bs z5.1)) (.int .i64 (z5.2 : Nat))
      have HM6 := Lib.hid (And.intro (HM5.out.1.set z5) (And.intro (HM5.out.2.1.touch ht6 (fun x hx e => by have := HM5.out.2.1.2 x hx; omega)) (And.intro (HM5.out.2.2.low (ht6.mono fun k _ e => show k < w.heap.size + 2 by omega)) (HN5.out.low (ht6.mono fun k _ e => show k < w.heap.size + 2 by omega)))))
      obtain ⟨a5, c5, w8, hrun, hd8, hrow, hinn⟩ := ch_step HM6.out.1 HM6.out.2.1 HM6.out.2.2.1 HM6.out.2.2.2 j HL.out (by omega)
      rw [show ((W5.setCell ⟨w.heap.size, 0, none⟩ (.string (bs z5.1))).setCell ⟨w.heap.size, 1, none⟩ (.int .i64 (z5.2 : Nat))).heap.size = W5.heap.size by simp] at hrun
      have HRUN := Lib.hid hrun
      have HM7 : Hid ((ls ++ [[Value.int .i64 gk, Value.int .i64 gp, Value.slice av gv.length cv]]).length = j + 1 ∧ D1 w z5 w8 ∧ OwnV 105 3 (w.heap.size + 2) a5 c5 (ls ++ [[.int .i64 gk, .int .i64 gp, .slice av gv.length cv]]) w8 ∧ Inn (w.heap.size + 2) a5 w8 (fun W => ChIs W (ls ++ [[.int .i64 gk, .int .i64 gp, .slice av gv.length cv]]) (V ++ [⟨gk, gp, gv⟩]))) := Lib.hid ⟨by rw [List.length_append, HL.out]; rfl, hd8, hrow, hinn⟩
      clear HM5 HM6 HN5 hrun hrow hd8 hinn ht6
      go_wp2_with (at_builtin; refine wpList_append_run _ rfl (.tmp 31) (.tmp 33) 42 42 rfl _ _ rfl rfl (.slice a5 (j + 1) c5) w8 HRUN.out ?_)
      go_roundw
      case rel => exact ⟨j + 1, a5, c5, _, by omega, by go_num, rfl, Lib.hid (by rw [HN.out]; exact HM7.out)⟩
      case measure => simp [intOf] <;> omega
    · have hex : j = n ∨ eq ≠ 0 := by omega
      obtain ⟨hT1, hT2⟩ := HFIN.out hex
      have p0 := HM.out.2.1.s0
      have p1 := HM.out.2.1.s1
      have d0 := HM.out.2.1.fr (w.heap.size + 1) 0 (by omega) (by omega)
      have d1 := HM.out.2.1.fr (w.heap.size + 1) 1 (by omega) (by omega)
      have HBW := Lib.hid (HM.out.2.1.res (.string (bs lq)) (.int .i64 (eq : Nat)))
      have HAC : Hid (T.1.2 = 0 → ∃ ls : List (List Value), j = ls.length ∧ Inn w.heap.size none ((wr.setCell ⟨w.heap.size + 1, 0, none⟩ (.string (bs lq))).setCell ⟨w.heap.size + 1, 1, none⟩ (.int .i64 (eq : Nat))) (fun W => VRow 3 W a ls ∧ ChIs W ls T.2)) := Lib.hid (fun hz2 => by
        have e2 := hT2 hz2
        rw [e2]
        have hw := HM.out.2.2.2.now.wide
        have i1 : Inn (w.heap.size + 2) none wr (fun W => VRow 3 W a ls) := fun W hW => VRow.touch (by decide) hw (HM.out.2.2.1.row hw) hW (fun x hx e => by
          have := HM.out.2.2.1.2 x hx
          rcases e with e | e
          · omega
          · simp at e)
        have ht := touch_res w wr (.string (bs lq)) (.int .i64 (eq : Nat))
        exact ⟨ls, HM.out.1.symm, ((i1.and (HM.out.2.2.2.sub (Nat.le_refl _))).low (ht.mono fun k _ e => show k < w.heap.size + 2 by omega)).sub (show w.heap.size ≤ w.heap.size + 2 by omega)⟩)
      have HF1 := Lib.hid hT1
      clear hln hok HN hT1 hT2 HFIN HR HOK HST HM
      by_cases hlt : j < n
      · have hi1 : (j : Int) < (n : Int) := by omega
        have he : eq ≠ 0 := by omega
        have heb : ((eq : Int) == 0) = false := by rw [beq_eq_false_iff_ne]; omega
        have hei : ¬ (eq : Int) = 0 := by omega
        go_wp2
        refine bodyPost_ret (v := .tuple #[.agg #[.string (bs lq), .int .i64 (eq : Nat)], .slice a j c]) (by simp [results, Try.results53, go_sem, p0, p1]) rfl ?_
        have HX := HF.out a j c _ HBW.out HAC.out
        rw [HF1.out] at HX
        exact HX
      · have hi1 : (n : Int) ≤ (j : Int) := by omega
        go_wp2
        refine bodyPost_ret (v := .tuple #[.agg #[.string (bs lq), .int .i64 (eq : Nat)], .slice a j c]) (by simp [results, Try.results53, go_sem, p0, p1]) rfl ?_
        have HX := HF.out a j c _ HBW.out HAC.out
        rw [HF1.out] at HX
        exact HX
end Go.Proofs.Ytcbadcbnknmdnaa
