/-
  Layer 20: what is read may be written; a record of a text, a record's text.
-/
import Derived.Test.YtcbadcbnknmdnaaRec8
namespace Go.Proofs.Ytcbadcbnknmdnaa
open Go.RowKit
set_option linter.unusedVariables false

theorem runS_all {α : Type} {f : St → St × α} {P : α → Prop} (hf : ∀ st, P (f st).2) (n : Nat) (st : St) : ∀ x ∈ (runS f n st).2, P x := by
  induction n with
  | zero => intro x hx; simp [runS] at hx
  | succ n ih =>
    intro x hx
    have e : (runS f (n + 1) st).2 = (runS f n st).2 ++ [(f (runS f n st).1).2] := rfl
    rw [e, List.mem_append, List.mem_singleton] at hx
    rcases hx with hx | rfl
    · exact ih x hx
    · exact hf _
theorem votS_in (st : St) : 0 ≤ (votS st).2 ∧ (votS st).2 ≤ 31 := by
  have e : (votS st).2 = ((countS st 31).2 : Int) := rfl
  have h : (countS st 31).2 ≤ 31 := countS_le st 31
  rw [e]
  omega
theorem chgS_dom (st : St) : ChgDom (chgS st).2 := by
  have hR : chgS st = ((runS votS (countS (countS (countS st 3).1 31).1 32).2 (countS (countS (countS st 3).1 31).1 32).1).1, ⟨((countS st 3).2 : Int), ((countS (countS st 3).1 31).2 : Int), (runS votS (countS (countS (countS st 3).1 31).1 32).2 (countS (countS (countS st 3).1 31).1 32).1).2⟩) := rfl
  have h1 : (countS st 3).2 ≤ 3 := countS_le st 3
  have h2 : (countS (countS st 3).1 31).2 ≤ 31 := countS_le (countS st 3).1 31
  have h3 : (countS (countS (countS st 3).1 31).1 32).2 ≤ 32 := countS_le (countS (countS st 3).1 31).1 32
  have h4 := runS_len votS (countS (countS (countS st 3).1 31).1 32).2 (countS (countS (countS st 3).1 31).1 32).1
  have h5 := runS_all (f := votS) (P := fun v => 0 ≤ v ∧ v ≤ 31) votS_in (countS (countS (countS st 3).1 31).1 32).2 (countS (countS (countS st 3).1 31).1 32).1
  rw [hR]
  unfold ChgDom
  simp only
  rw [h4]
  exact ⟨by omega, by omega, by omega, by omega, h3, h5⟩
theorem chyS_dom (st : St) : ChgDom (chyS st).2 := by
  rw [chyS_eq]
  unfold chgT
  simp only
  split
  · exact chgS_dom st
  · exact ⟨by decide, by decide, by decide, by decide, by simp, by simp⟩
theorem orderS_zero {st : St} (h : (orderS st).1.2 = 0) : st.2 = 0 ∧ OrdDom (orderS st).2 := by
  have hO : orderS st = (failS (numS (numS (countS (countS st 4).1 1099511627776).1).1).1 (checkN ⟨((countS st 4).2 : Nat), ((countS (countS st 4).1 1099511627776).2 : Nat), unzig (numS (countS (countS st 4).1 1099511627776).1).2, unzig (numS (numS (countS (countS st 4).1 1099511627776).1).1).2⟩),
    ⟨((countS st 4).2 : Nat), ((countS (countS st 4).1 1099511627776).2 : Nat), unzig (numS (countS (countS st 4).1 1099511627776).1).2, unzig (numS (numS (countS (countS st 4).1 1099511627776).1).1).2⟩) := rfl
  rw [hO] at h ⊢
  simp only at h ⊢
  have h1 := failS_zero h
  exact ⟨countS_zero (countS_zero (numS_zero (numS_zero h1.1))), h1.2⟩
theorem runS_step {α : Type} (f : St → St × α) (n : Nat) (st : St) : runS f (n + 1) st = ((f (runS f n st).1).1, (runS f n st).2 ++ [(f (runS f n st).1).2]) := rfl
theorem runS_zero {α : Type} {f : St → St × α} {P : α → Prop} (hf : ∀ st, (f st).1.2 = 0 → st.2 = 0 ∧ P (f st).2) (n : Nat) {st : St} (h : (runS f n st).1.2 = 0) : ∀ x ∈ (runS f n st).2, P x := by
  induction n with
  | zero => intro x hx; simp [runS] at hx
  | succ n ih =>
    rw [runS_step] at h ⊢
    have h1 := hf _ h
    intro x hx
    simp only [List.mem_append, List.mem_singleton] at hx
    rcases hx with hx | rfl
    · exact ih h1.1 x hx
    · exact h1.2
theorem runO_zero (n : Nat) {st : St} (h : (runS orderS n st).1.2 = 0) : ∀ x ∈ (runS orderS n st).2, OrdDom x := runS_zero (fun s hs => orderS_zero hs) n h
theorem batchS_dom {st : St} (h : (batchS st).1.2 = 0) : BatchDom (batchS st).2 := by
  have hB : batchS st = runS orderS (countS st 8).2 (countS st 8).1 := rfl
  have h2 := runS_len orderS (countS st 8).2 (countS st 8).1
  have h3 := countS_le st 8
  rw [hB] at h ⊢
  exact ⟨by rw [h2]; exact h3, runO_zero _ h⟩
theorem plyS_dom (st : St) : PlDom (plyS st).2 := by
  have hP : plyS st = ((batchS (countS st 31).1).1, ⟨((countS st 31).2 : Int), if (batchS (countS st 31).1).1.2 = 0 then (batchS (countS st 31).1).2 else []⟩) := rfl
  have h1 : (countS st 31).2 ≤ 31 := countS_le st 31
  rw [hP]
  unfold PlDom
  simp only
  refine ⟨by omega, by omega, ?_⟩
  split
  · rename_i h; exact batchS_dom h
  · exact ⟨by simp, by simp⟩
theorem recS_eq (st : St) : recS st = ((plsS (countS (countS (chsS (countS st 1099511627776).1).1 64).1 6).1).1, ⟨((countS st 1099511627776).2 : Int), (chsS (countS st 1099511627776).1).2, ((countS (chsS (countS st 1099511627776).1).1 64).2 : Int), ((countS (countS (chsS (countS st 1099511627776).1).1 64).1 6).2 : Int), (plsS (countS (countS (chsS (countS st 1099511627776).1).1 64).1 6).1).2⟩) := rfl
theorem chsS_dom (st : St) : ChsDom (chsS st).2 := by
  have hB : chsS st = runS chyS (countS st 8).2 (countS st 8).1 := rfl
  have h2 := runS_len chyS (countS st 8).2 (countS st 8).1
  have h3 := countS_le st 8
  rw [hB]
  exact ⟨by rw [h2]; exact h3, runS_all chyS_dom _ _⟩
theorem plsS_dom (st : St) : PlsDom (plsS st).2 := by
  have hB : plsS st = runS plyS (countS st 32).2 (countS st 32).1 := rfl
  have h2 := runS_len plyS (countS st 32).2 (countS st 32).1
  have h3 := countS_le st 32
  rw [hB]
  exact ⟨by rw [h2]; exact h3, runS_all plyS_dom _ _⟩
theorem recS_dom (st : St) : RecDom (recS st).2 := by
  have h1 : (countS st 1099511627776).2 ≤ 1099511627776 := countS_le st 1099511627776
  have h2 := chsS_dom (countS st 1099511627776).1
  have h3 : (countS (chsS (countS st 1099511627776).1).1 64).2 ≤ 64 := countS_le (chsS (countS st 1099511627776).1).1 64
  have h4 : (countS (countS (chsS (countS st 1099511627776).1).1 64).1 6).2 ≤ 6 := countS_le (countS (chsS (countS st 1099511627776).1).1 64).1 6
  have h5 := plsS_dom (countS (countS (chsS (countS st 1099511627776).1).1 64).1 6).1
  rw [recS_eq]
  unfold RecDom
  simp only
  exact ⟨by omega, by omega, h2, by omega, by omega, by omega, by omega, h5⟩
def recP (T : St × Rec) : Rec := if (endS T.1).2 = 0 then T.2 else ⟨0, [], 0, 0, []⟩
def recQ (l : List UInt8) : Rec := recP (recS (l, 0))
theorem endS_zero {st : St} (h : (endS st).2 = 0) : st.2 = 0 ∧ st.1 = [] := by
  unfold endS at h
  split at h
  · have := (failS_zero h).2
    omega
  · rename_i hl
    exact ⟨h, List.eq_nil_of_length_eq_zero (by omega)⟩
theorem recT_ok {T : St × Rec} (h : (endS T.1).2 = 0) : recT T = T.2 := if_pos (endS_zero h).1
theorem recP_ok {T : St × Rec} (h : (endS T.1).2 = 0) : recP T = T.2 := if_pos h
theorem recP_no {T : St × Rec} (h : (endS T.1).2 ≠ 0) : recP T = ⟨0, [], 0, 0, []⟩ := if_neg h
theorem recQ_dom (l : List UInt8) : RecDom (recQ l) := by
  have hd := recS_dom (l, 0)
  unfold recQ
  generalize recS (l, 0) = T at hd ⊢
  unfold recP
  split
  · exact hd
  · exact ⟨by decide, by decide, ⟨by simp, by simp⟩, by decide, by decide, by decide, by decide, by simp, by simp⟩
theorem recQ_spell (l : List UInt8) (h : (endS (recS (l, 0)).1).2 = 0) : l = recB (recQ l) := by
  have hs := recC.spell l
  unfold recQ
  generalize recS (l, 0) = T at h hs ⊢
  obtain ⟨h1, h2⟩ := endS_zero h
  have := hs h1
  rw [recP_ok h]
  rw [h2, List.append_nil] at this
  exact this
def RpPost (w : World) (Q : Rec) (E : Nat) (r : Ending) (w' : World) : Prop := ∃ a c ls a2 c2 ls2, r = .returned (.tuple #[recV Q.t a ls.length c Q.tk Q.dl a2 ls2.length c2, .int .i64 (E : Nat)]) ∧ Below w.heap.size w w' ∧ Hid (Inn w.heap.size none w' (fun W => RecIs W Q a ls a2 ls2))
set_option maxRecDepth 100000 in
set_option maxHeartbeats 2000000 in
theorem recParse_any (s : ByteArray) (w : World) (hs : s.size ≤ 1000000000) : Calls Try.prog 15 #[.string s] w (RpPost w (recQ s.data.toList) (endS (recS (s.data.toList, 0)).1).2) := by
  have HRD := Lib.hid (fun b W (hW : InSt W b (s.data.toList, 0)) => recRead_any b (s.data.toList, 0) W hW)
  unfold RecRd at HRD
  unfold recQ
  generalize recS (s.data.toList, 0) = T at HRD ⊢
  have hQ1 : (endS T.1).2 = 0 → recP T = T.2 := recP_ok
  have hQ2 : (endS T.1).2 ≠ 0 → recP T = ⟨0, [], 0, 0, []⟩ := recP_no
  have hT0 : (endS T.1).2 = 0 → recT T = T.2 := recT_ok
  have HF : Hid (∀ Q E t a c ls m tk dl a2 c2 ls2 pm n n2 W, Q = (⟨t, m, tk, dl, pm⟩ : Rec) → n = ls.length → n2 = ls2.length → Below w.heap.size w W → Inn w.heap.size none W (fun W => RecIs W ⟨t, m, tk, dl, pm⟩ a ls a2 ls2) → RpPost w Q E (.returned (.tuple #[.agg #[.int .i64 t, .slice a n c, .int .i64 tk, .int .i64 dl, .slice a2 n2 c2], .int .i64 (E : Nat)])) W) := Lib.hid fun Q E t a c ls m tk dl a2 c2 ls2 pm n n2 W h1 h2 h3 h4 h5 => by
    subst h1 h2 h3
    exact ⟨a, c, ls, a2, c2, ls2, rfl, h4, Lib.hid h5⟩
  generalize recP T = Q at hQ1 hQ2 ⊢
  generalize hTT : recT T = g at HRD hT0
  obtain ⟨⟨l, e⟩, T2⟩ := T
  obtain ⟨gt, gm, gk, gd, gp⟩ := g
  simp only [recV] at HRD
  simp only at hQ1 hQ2 hT0 ⊢
  have HEND := Lib.hid (fun b W (hW : InSt W b (l, e)) => end_any b l e W hW)
  clear hTT
  generalize endS (l, e) = EE at HEND hQ1 hQ2 hT0 ⊢
  obtain ⟨l2, E⟩ := EE
  simp only at HEND hQ1 hQ2 hT0 ⊢
  have HQ1 := Lib.hid hQ1
  have HQ2 := Lib.hid hQ2
  have HT0 := Lib.hid hT0
  clear hQ1 hQ2 hT0
  have x0 : Hid ((w.alloc (.cells #[.int .i64 0, .slice none 0 0, .int .i64 0, .int .i64 0, .slice none 0 0] 34)).heap.size = w.heap.size + 1) := Lib.hid (by simp)
  have HC0 : Hid (Cs (w.alloc (.cells #[.int .i64 0, .slice none 0 0, .int .i64 0, .int .i64 0, .slice none 0 0] 34)) w.heap.size zeroR) := Lib.hid (Cs.new rfl rfl)
  have HFX : Hid (∀ j, (w.alloc (.cells #[.int .i64 0, .slice none 0 0, .int .i64 0, .int .i64 0, .slice none 0 0] 34)).frozen? ⟨w.heap.size, j, none⟩ = false) := Lib.hid fun j => frozen_new _ _ _ _
  have HB0 := Lib.hid (bel_alloc (Below.refl _ w) (.cells #[.int .i64 0, .slice none 0 0, .int .i64 0, .int .i64 0, .slice none 0 0] 34))
  go_enter Try.func15, Try.ntmps15
  go_wp2_with fail
  generalize w.alloc (.cells #[.int .i64 0, .slice none 0 0, .int .i64 0, .int .i64 0, .slice none 0 0] 34) = W0 at HC0 HFX HB0 x0 ⊢
  refine (open_any s _ hs).mono ?_
  rintro r w1 ⟨rfl, hi1, hb1⟩
  have HI1 := Lib.hid hi1
  have HB1 := Lib.hid hb1
  clear hi1 hb1
  go_wp2_with fail
  refine (HRD.out _ _ HI1.out).mono ?_
  rintro r w2 ⟨a, c, ls, a2, c2, ls2, rfl, hi2, hn2⟩
  have HB2 := Lib.hid (HB1.out.trans (hi2.2.below HB1.out.size (fun k hk e => by omega)))
  have HI2 := Lib.hid hi2.1
  have HN2 := Lib.hid hn2.out
  have hsz1 := HB1.out.size
  have HSB := Lib.hid (HI1.out.lt)
  clear hi2 hn2 HRD HI1
  have hbz : ∀ k, k < W0.heap.size → k ≠ W0.heap.size := fun k hk => by omega
  generalize hB : W0.heap.size = B at HB1 HB2 HI2 x0 hbz ⊢
  have HBW := Lib.hid hB
  clear hB
  have HC2 := Lib.hid (HC0.out.touch (touch_of_below (S := fun _ => False) (by rw [HBW.out]; exact HB2.out)) id)
  have HF2 := Lib.hid (fun j => ((show Below W0.heap.size W0 w2 by rw [HBW.out]; exact HB2.out).frozen (p := ⟨w.heap.size, j, none⟩) (show w.heap.size < W0.heap.size by rw [HBW.out, x0.out]; omega)).trans (HFX.out j))
  clear HC0 HFX
  have hz2 : w.heap.size < w2.heap.size := by have := HB2.out.size; have := x0.out; have := HBW.out; omega
  have HA := Lib.hid (bel_alloc (Below.refl _ w2) (.cells #[.int .i64 gt, .slice a ls.length c, .int .i64 gk, .int .i64 gd, .slice a2 ls2.length c2] 34))
  have HX : Hid (Cs (w2.alloc (.cells #[.int .i64 gt, .slice a ls.length c, .int .i64 gk, .int .i64 gd, .slice a2 ls2.length c2] 34)) w2.heap.size [.int .i64 gt, .slice a ls.length c, .int .i64 gk, .int .i64 gd, .slice a2 ls2.length c2]) := Lib.hid (Cs.new rfl rfl)
  have hsz3 : w2.heap.size < (w2.alloc (.cells #[.int .i64 gt, .slice a ls.length c, .int .i64 gk, .int .i64 gd, .slice a2 ls2.length c2] 34)).heap.size := by simp
  go_wp2_with fail
  generalize w2.alloc (.cells #[.int .i64 gt, .slice a ls.length c, .int .i64 gk, .int .i64 gd, .slice a2 ls2.length c2] 34) = W2 at HA HX hsz3 ⊢
  have HC3 := Lib.hid (HC2.out.touch (touch_of_below (S := fun _ => False) HA.out) id)
  have HF3 := Lib.hid (fun j => (HA.out.frozen (p := ⟨w.heap.size, j, none⟩) hz2).trans (HF2.out j))
  have HI3 := Lib.hid (HI2.out.below HA.out)
  have HN3 := Lib.hid (HN2.out.low (touch_of_below HA.out))
  have HB3 := Lib.hid (HB2.out.trans (HA.out.mono (by have := HB2.out.size; have := HBW.out; omega)))
  have hPB : ¬ w2.heap.size = B := by have := HI2.out.lt; omega
  have hwB : w.heap.size < B := by have := x0.out; omega
  clear HC2 HF2 HI2 HN2 HB2 HA
  generalize w2.heap.size = P at HX hPB hz2 hsz3 ⊢
  refine (HEND.out _ _ HI3.out).mono ?_
  rintro r w4 ⟨rfl, hi4⟩
  have hbx : ¬ w.heap.size = B := by omega
  have hwB2 := hwB
  have hz4 : w.heap.size < w4.heap.size := by have := hi4.2.size; omega
  have hP4 : P < w4.heap.size := by have := hi4.2.size; omega
  have hwP : ¬ P = w.heap.size := by omega
  have hwP' : ¬ w.heap.size = P := by omega
  have c4 := HC3.out.touch hi4.2 (fun e => hbx e)
  have p4 := HX.out.touch hi4.2 (fun e => hPB e)
  have f4 := fun j => (hi4.2.frozen (p := ⟨w.heap.size, j, none⟩) (show w.heap.size < W2.heap.size by omega) (fun e => hbx e)).trans (HF3.out j)
  have HN4 : Hid (Inn W0.heap.size none w4 (fun W => RecIs W ⟨gt, gm, gk, gd, gp⟩ a ls a2 ls2)) := Lib.hid (by
    have h1 : Inn w1.heap.size none w4 (fun W => RecIs W ⟨gt, gm, gk, gd, gp⟩ a ls a2 ls2) := HN3.out.low (hi4.2.mono fun k _ e => by show k < w1.heap.size; have := HBW.out; have := HSB.out; omega)
    exact h1.sub hsz1)
  have HB4 : Hid (Below w.heap.size w w4) := Lib.hid (by
    have h0 := HB0.out
    have h3 : Below W0.heap.size W0 W2 := by rw [HBW.out]; exact HB3.out
    exact (h0.trans (h3.mono h0.size)).trans (hi4.2.below (Nat.le_trans h0.size h3.size) (fun k hk e => by omega)))
  have x0' : w4.cell? ⟨w.heap.size, 0, none⟩ = some (.int .i64 0) := c4 0 (by decide)
  have x1' : w4.cell? ⟨w.heap.size, 1, none⟩ = some (.slice none 0 0) := c4 1 (by decide)
  have x2' : w4.cell? ⟨w.heap.size, 2, none⟩ = some (.int .i64 0) := c4 2 (by decide)
  have x3' : w4.cell? ⟨w.heap.size, 3, none⟩ = some (.int .i64 0) := c4 3 (by decide)
  have x4' : w4.cell? ⟨w.heap.size, 4, none⟩ = some (.slice none 0 0) := c4 4 (by decide)
  have p0 : w4.cell? ⟨P, 0, none⟩ = some (.int .i64 gt) := p4 0 (by simp)
  have p1 : w4.cell? ⟨P, 1, none⟩ = some (.slice a ls.length c) := p4 1 (by simp)
  have p2 : w4.cell? ⟨P, 2, none⟩ = some (.int .i64 gk) := p4 2 (by simp)
  have p3 : w4.cell? ⟨P, 3, none⟩ = some (.int .i64 gd) := p4 3 (by simp)
  have p4' : w4.cell? ⟨P, 4, none⟩ = some (.slice a2 ls2.length c2) := p4 4 (by simp)
  have f0 := f4 0
  have f1 := f4 1
  have f2 := f4 2
  have f3 := f4 3
  have f5 := f4 4
  have HSET : Hid (∀ u v z y x, Below w.heap.size w (((((w4.setCell ⟨w.heap.size, 0, none⟩ u).setCell ⟨w.heap.size, 1, none⟩ v).setCell ⟨w.heap.size, 2, none⟩ z).setCell ⟨w.heap.size, 3, none⟩ y).setCell ⟨w.heap.size, 4, none⟩ x)) := Lib.hid (fun u v z y x => HB4.out.trans ((touch5 w4 w.heap.size u v z y x).below (Nat.le_of_lt hz4) (fun k hk e => by omega)))
  have HINN : Hid (∀ u v z y x, Inn w.heap.size none (((((w4.setCell ⟨w.heap.size, 0, none⟩ u).setCell ⟨w.heap.size, 1, none⟩ v).setCell ⟨w.heap.size, 2, none⟩ z).setCell ⟨w.heap.size, 3, none⟩ y).setCell ⟨w.heap.size, 4, none⟩ x) (fun W => RecIs W ⟨gt, gm, gk, gd, gp⟩ a ls a2 ls2)) := Lib.hid (fun u v z y x => (HN4.out.low ((touch5 w4 w.heap.size u v z y x).mono fun k _ e => by show k < W0.heap.size; rw [HBW.out]; omega)).sub (by rw [HBW.out]; exact Nat.le_of_lt hwB))
  clear hi4 c4 p4 f4 HC3 HX HF3 HI3 HN3 HB3 HEND HN4 HB0 HB1 hbz hsz1 hsz3
  by_cases he : E = 0
  · subst he
    have HQ := Lib.hid ((HQ1.out rfl).trans (HT0.out rfl).symm)
    clear HQ1 HQ2 HT0
    go_wp2
    exact bodyPost_ret (v := .tuple #[.agg #[.int .i64 gt, .slice a ls.length c, .int .i64 gk, .int .i64 gd, .slice a2 ls2.length c2], .int .i64 (0 : Nat)]) (by simp [results, Try.results15, go_sem, x0', x1', x2', x3', x4']) rfl (HF.out _ 0 gt a c ls gm gk gd a2 c2 ls2 gp _ _ _ HQ.out rfl rfl (HSET.out _ _ _ _ _) (HINN.out _ _ _ _ _))
  · have heb : ((E : Int) == 0) = false := by rw [beq_eq_false_iff_ne]; omega
    have heb2 : ((E : Int) != 0) = true := by simp; omega
    have hei : ¬ (E : Int) = 0 := by omega
    have HQ := Lib.hid (HQ2.out he)
    clear HQ1 HQ2 HT0 he
    go_wp2
    exact bodyPost_ret (v := .tuple #[.agg #[.int .i64 0, .slice none 0 0, .int .i64 0, .int .i64 0, .slice none 0 0], .int .i64 (E : Nat)]) (by simp [results, Try.results15, go_sem, x0', x1', x2', x3', x4']) rfl (HF.out _ E 0 none 0 [] [] 0 0 none 0 [] [] 0 0 _ HQ.out rfl rfl (HSET.out _ _ _ _ _) (fun W _ => nil_recIs W))
set_option maxRecDepth 100000 in
set_option maxHeartbeats 1000000 in
theorem recText_any (R : Rec) (a : Option Addr) (n c : Nat) (ls : List (List Value)) (a2 : Option Addr) (n2 c2 : Nat) (ls2 : List (List Value)) (w : World) (hr : RecIs w R a ls a2 ls2) (hd : RecDom R) (hn : n = ls.length) (hn2 : n2 = ls2.length) :
    Calls Try.prog 14 #[recV R.t a n c R.tk R.dl a2 n2 c2] w fun r w' => r = .returned (.string (bs (recB R))) ∧ Below w.heap.size w w' := by
  have hA := bel_alloc (Below.refl _ w) (.cells #[.int .i64 R.t, .slice a n c, .int .i64 R.tk, .int .i64 R.dl, .slice a2 n2 c2] 34)
  have HR := Lib.hid (fun W (hW : Below w.heap.size w W) => hr.k hr.inK (touch_of_below hW))
  have HK := Lib.hid hr.inK
  have HCS : Hid (Cs (w.alloc (.cells #[.int .i64 R.t, .slice a n c, .int .i64 R.tk, .int .i64 R.dl, .slice a2 n2 c2] 34)) w.heap.size [.int .i64 R.t, .slice a n c, .int .i64 R.tk, .int .i64 R.dl, .slice a2 n2 c2]) := Lib.hid (Cs.new rfl rfl)
  have HA := Lib.hid hA
  have HPUT := Lib.hid (fun (K : Nat → Prop) b W (hW : Below w.heap.size w W) (ho : OutQ K b [] W) (hk : ∀ k, k < w.heap.size → K k) => recPut_any K b [] R a n c ls a2 n2 c2 ls2 W ho (HR.out W hW) (HK.out.sub hk) hd (by simp) hn hn2)
  unfold PutPost at HPUT
  simp only [List.nil_append] at HPUT
  unfold recV at HPUT ⊢
  obtain ⟨t, ch, tk, dl, pl⟩ := R
  simp only at HCS HPUT HA ⊢
  clear hA hr hd hn hn2
  go_enter Try.func14, Try.ntmps14
  go_upto_region 1 with (fail)
  generalize w.alloc (.cells #[.int .i64 t, .slice a n c, .int .i64 tk, .int .i64 dl, .slice a2 n2 c2] 34) = W0 at HCS HA ⊢
  generalize w.heap.size = X at HCS ⊢
  have HO := Lib.hid (OutQ.start (K := fun k => k < W0.heap.size) W0 65 (fun k hk => hk))
  have hA1 := bel_alloc (Below.refl _ W0) (.cells #[.slice none 0 0] 65)
  have HC1 := Lib.hid (HCS.out.touch (touch_of_below (S := fun _ => False) hA1) id)
  have HA1 := Lib.hid hA1
  have y0 : (W0.alloc (.cells #[.slice none 0 0] 65)).cell? ⟨X, 0, none⟩ = some (.int .i64 t) := HC1.out 0 (by simp)
  have y1 : (W0.alloc (.cells #[.slice none 0 0] 65)).cell? ⟨X, 1, none⟩ = some (.slice a n c) := HC1.out 1 (by simp)
  have y2 : (W0.alloc (.cells #[.slice none 0 0] 65)).cell? ⟨X, 2, none⟩ = some (.int .i64 tk) := HC1.out 2 (by simp)
  have y3 : (W0.alloc (.cells #[.slice none 0 0] 65)).cell? ⟨X, 3, none⟩ = some (.int .i64 dl) := HC1.out 3 (by simp)
  have y4 : (W0.alloc (.cells #[.slice none 0 0] 65)).cell? ⟨X, 4, none⟩ = some (.slice a2 n2 c2) := HC1.out 4 (by simp)
  have hXl := block_lt_of_cell y0
  simp only at hXl
  clear hA1
  go_wp2_with fail
  refine (HPUT.out _ _ _ (HA.out.trans (HA1.out.mono HA.out.size)) HO.out (fun k hk => Nat.lt_of_lt_of_le hk HA.out.size)).mono ?_
  rintro r w1 ⟨rfl, ho, ht⟩
  have HT := Lib.hid (outText_q ho)
  have HB := Lib.hid ((HA.out.trans (HA1.out.mono HA.out.size)).trans (ht.below (Nat.le_trans HA.out.size HA1.out.size) (fun k hk h => h (Nat.lt_of_lt_of_le hk HA.out.size))))
  clear ho ht HPUT y0 y1 y2 y3 y4 hXl
  go_wp2_with fail
  refine HT.out.mono ?_
  rintro r w2 ⟨rfl, rfl⟩
  go_wp2
  go_ret
  exact ⟨rfl, HB.out⟩
end Go.Proofs.Ytcbadcbnknmdnaa
