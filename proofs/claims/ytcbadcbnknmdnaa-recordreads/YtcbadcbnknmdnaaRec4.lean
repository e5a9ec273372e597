/-
  Layer 9: the document's own: a batch out of bytes.
-/
import Derived.Test.YtcbadcbnknmdnaaRec1
import Derived.Test.YtcbadcbnknmdnaaVals
import Derived.Test.YtcbadcbnknmdnaaRecSet
import Derived.Deep.RegionHeld3
namespace Go.Proofs.Ytcbadcbnknmdnaa
open Go.RowKit
set_option linter.unusedVariables false

/-- The document's reader under way: its box, and the answer's. -/
structure D1 (w : World) (st : St) (wr : World) : Prop where
  i0 : wr.cell? ⟨w.heap.size, 0, none⟩ = some (.string (bs st.1))
  i1 : wr.cell? ⟨w.heap.size, 1, none⟩ = some (.int .i64 (st.2 : Nat))
  s0 : wr.cell? ⟨w.heap.size + 1, 0, none⟩ = some (.string ⟨#[]⟩)
  s1 : wr.cell? ⟨w.heap.size + 1, 1, none⟩ = some (.int .i64 0)
  fr : ∀ q j, w.heap.size ≤ q → q ≤ w.heap.size + 1 → wr.frozen? ⟨q, j, none⟩ = false
  bel : Below w.heap.size w wr
theorem D1.lt {w : World} {st : St} {wr : World} (h : D1 w st wr) : w.heap.size + 1 < wr.heap.size := block_lt_of_cell h.s0
theorem D1.touch {S : Nat → Prop} {w : World} {st : St} {wr w' : World} (h : D1 w st wr) (ht : Touch S wr w') (hS : ∀ q, S q → w.heap.size + 1 < q) : D1 w st w' := by
  have hl := h.lt
  have hc : ∀ q j, q ≤ w.heap.size + 1 → w'.cell? ⟨q, j, none⟩ = wr.cell? ⟨q, j, none⟩ := fun q j hq => ht.cell (p := ⟨q, j, none⟩) (show q < wr.heap.size by omega) (fun e => by have := hS _ e; simp only at this; omega)
  exact ⟨(hc _ _ (by omega)).trans h.i0, (hc _ _ (by omega)).trans h.i1, (hc _ _ (by omega)).trans h.s0, (hc _ _ (by omega)).trans h.s1, fun q j h1 h2 => (ht.frozen (p := ⟨q, j, none⟩) (show q < wr.heap.size by omega) (fun e => by have := hS _ e; simp only at this; omega)).trans (h.fr q j h1 h2), h.bel.trans (ht.below h.bel.size fun q hq e => by have := hS _ e; omega)⟩
theorem D1.keep {w : World} {st : St} {wr w' : World} (h : D1 w st wr) (hb : Below wr.heap.size wr w') : D1 w st w' := h.touch (touch_of_below (S := fun _ => False) hb) (fun _ h => h.elim)
theorem D1.set {w : World} {st : St} {wr : World} (h : D1 w st wr) (s2 : St) : D1 w s2 ((wr.setCell ⟨w.heap.size, 0, none⟩ (.string (bs s2.1))).setCell ⟨w.heap.size, 1, none⟩ (.int .i64 (s2.2 : Nat))) := by
  have hx : ∀ q j, q ≠ w.heap.size → ((wr.setCell ⟨w.heap.size, 0, none⟩ (.string (bs s2.1))).setCell ⟨w.heap.size, 1, none⟩ (.int .i64 (s2.2 : Nat))).cell? ⟨q, j, none⟩ = wr.cell? ⟨q, j, none⟩ := fun q j hq => by
    rw [World.cell?_setCell_other _ _ _ _ (by first | (simp; done) | (simp; omega)), World.cell?_setCell_other _ _ _ _ (by first | (simp; done) | (simp; omega))]
  refine ⟨?_, World.cell?_setCell_same' _ _ _ (by rw [World.cell?_setCell_other _ _ _ _ (by simp), h.i1]; rfl), (hx _ _ (by omega)).trans h.s0, (hx _ _ (by omega)).trans h.s1, fun q j h1 h2 => by rw [World.frozen?_setCell, World.frozen?_setCell]; exact h.fr q j h1 h2, (h.bel.setCell (p := ⟨w.heap.size, 0, none⟩) (Nat.le_refl _) _).setCell (p := ⟨w.heap.size, 1, none⟩) (Nat.le_refl _) _⟩
  rw [World.cell?_setCell_other _ _ _ _ (by simp)]
  exact World.cell?_setCell_same' _ _ _ (by rw [h.i0]; rfl)
theorem D1.new (w : World) (st : St) : D1 w st ((w.alloc (.cells #[.string (bs st.1), .int .i64 (st.2 : Nat)] 57)).alloc (.cells #[.string ⟨#[]⟩, .int .i64 0] 57)) := by
  have e1 : (w.alloc (.cells #[.string (bs st.1), .int .i64 (st.2 : Nat)] 57)).heap.size = w.heap.size + 1 := by simp
  refine ⟨alloc_cell (new_cell rfl rfl) _, alloc_cell (new_cell rfl rfl) _, new_cell e1.symm rfl, new_cell e1.symm rfl, fun q j h1 h2 => ?_, bel_alloc (bel_alloc (Below.refl _ _) _) _⟩
  by_cases h4 : q = w.heap.size + 1
  · subst h4
    rw [← e1]; exact frozen_new _ _ _ _
  · obtain rfl : q = w.heap.size := by omega
    rw [frozen_old _ _ ⟨w.heap.size, j, none⟩ (by simp)]
    exact frozen_new _ _ _ _
theorem D1.res {w : World} {st : St} {wr : World} (h : D1 w st wr) (y0 y1 : Value) : Below w.heap.size w ((wr.setCell ⟨w.heap.size + 1, 0, none⟩ y0).setCell ⟨w.heap.size + 1, 1, none⟩ y1) :=
  (h.bel.setCell (p := ⟨w.heap.size + 1, 0, none⟩) (show w.heap.size ≤ w.heap.size + 1 by omega) _).setCell (p := ⟨w.heap.size + 1, 1, none⟩) (show w.heap.size ≤ w.heap.size + 1 by omega) _
theorem touch_res (w wr : World) (y0 y1 : Value) : Touch (fun b => b = w.heap.size + 1) wr ((wr.setCell ⟨w.heap.size + 1, 0, none⟩ y0).setCell ⟨w.heap.size + 1, 1, none⟩ y1) :=
  ((Touch.refl (fun b => b = w.heap.size + 1) wr).setCell (p := ⟨w.heap.size + 1, 0, none⟩) (fun _ => rfl) _).setCell (p := ⟨w.heap.size + 1, 1, none⟩) (fun _ => rfl) _
theorem touch_in (w wr : World) (y0 y1 : Value) : Touch (fun b => b = w.heap.size) wr ((wr.setCell ⟨w.heap.size, 0, none⟩ y0).setCell ⟨w.heap.size, 1, none⟩ y1) :=
  ((Touch.refl (fun b => b = w.heap.size) wr).setCell (p := ⟨w.heap.size, 0, none⟩) (fun _ => rfl) _).setCell (p := ⟨w.heap.size, 1, none⟩) (fun _ => rfl) _
theorem keepDO {w w' : World} {p0 p1 q0 q1 q2 q3 : Addr} {a b c d e f : Value} (hb : Below w.heap.size w w') (h : (w.cell? p0 = some a ∧ w.cell? p1 = some b) ∧ (w.cell? q0 = some c ∧ w.cell? q1 = some d ∧ w.cell? q2 = some e ∧ w.cell? q3 = some f)) : (w'.cell? p0 = some a ∧ w'.cell? p1 = some b) ∧ (w'.cell? q0 = some c ∧ w'.cell? q1 = some d ∧ w'.cell? q2 = some e ∧ w'.cell? q3 = some f) :=
  ⟨⟨(hb.cell (block_lt_of_cell h.1.1)).trans h.1.1, (hb.cell (block_lt_of_cell h.1.2)).trans h.1.2⟩, keep4i hb h.2⟩
theorem keep4t {S : Nat → Prop} {w w' : World} {B : Nat} {x y z u : Value} (ht : Touch S w w') (hB : ¬ S B) (h : w.cell? ⟨B, 0, none⟩ = some x ∧ w.cell? ⟨B, 1, none⟩ = some y ∧ w.cell? ⟨B, 2, none⟩ = some z ∧ w.cell? ⟨B, 3, none⟩ = some u) : w'.cell? ⟨B, 0, none⟩ = some x ∧ w'.cell? ⟨B, 1, none⟩ = some y ∧ w'.cell? ⟨B, 2, none⟩ = some z ∧ w'.cell? ⟨B, 3, none⟩ = some u :=
  have hl : B < w.heap.size := block_lt_of_cell h.1
  ⟨(ht.cell (p := ⟨B, 0, none⟩) hl hB).trans h.1, (ht.cell (p := ⟨B, 1, none⟩) hl hB).trans h.2.1, (ht.cell (p := ⟨B, 2, none⟩) hl hB).trans h.2.2.1, (ht.cell (p := ⟨B, 3, none⟩) hl hB).trans h.2.2.2⟩
theorem keepDOt {S : Nat → Prop} {w w' : World} {A B : Nat} {a b x y z u : Value} (ht : Touch S w w') (hA : ¬ S A) (hB : ¬ S B) (h : (w.cell? ⟨A, 0, none⟩ = some a ∧ w.cell? ⟨A, 1, none⟩ = some b) ∧ (w.cell? ⟨B, 0, none⟩ = some x ∧ w.cell? ⟨B, 1, none⟩ = some y ∧ w.cell? ⟨B, 2, none⟩ = some z ∧ w.cell? ⟨B, 3, none⟩ = some u)) : (w'.cell? ⟨A, 0, none⟩ = some a ∧ w'.cell? ⟨A, 1, none⟩ = some b) ∧ (w'.cell? ⟨B, 0, none⟩ = some x ∧ w'.cell? ⟨B, 1, none⟩ = some y ∧ w'.cell? ⟨B, 2, none⟩ = some z ∧ w'.cell? ⟨B, 3, none⟩ = some u) :=
  have hl : A < w.heap.size := block_lt_of_cell h.1.1
  ⟨⟨(ht.cell (p := ⟨A, 0, none⟩) hl hA).trans h.1.1, (ht.cell (p := ⟨A, 1, none⟩) hl hA).trans h.1.2⟩, keep4t ht hB h.2⟩
theorem ord_step {w W : World} {st : St} {a : Option Addr} {c : Nat} {V : List Ord} (h : D1 w st W) (hr : OwnRec 159 4 (w.heap.size + 2) a c (ordsI V) W) (o : Ord) (N : Nat) (hN : V.length = N) (hl : N ≤ 1000) : ∃ a' c' w', (Builtin.append_ #[107, 107] 107 #[.slice a N c, .slice (some ⟨W.heap.size, 0, none⟩) 1 1]).run Try.prog (W.alloc (.cells #[.int .i64 o.kind, .int .i64 o.unit, .int .i64 o.a, .int .i64 o.b] 159)) = .ok (.slice a' (N + 1) c') w' ∧ D1 w st w' ∧ OwnRec 159 4 (w.heap.size + 2) a' c' (ordsI (V ++ [o])) w' := by
  obtain ⟨a5, c5, w8, hrun, hrow, htch⟩ := hr.one (t := 107) (u := 107) (ty := 107) rordTy Try.underlying107 Try.underlying107 h.lt o.ints rfl (by rw [ordsI_len]; omega)
  rw [ordsI_len, hN] at hrun
  refine ⟨a5, c5, w8, hrun, h.touch htch (fun q hq => by omega), ?_⟩
  rw [ordsI_append]
  exact hrow
def RoPost (w : World) (T : St × List Ord) (r : Ending) (w' : World) : Prop := ∃ a n c, r = .returned (.tuple #[.agg #[.string (bs T.1.1), .int .i64 (T.1.2 : Nat)], .slice a n c]) ∧ Below w.heap.size w w' ∧ Hid (T.1.2 = 0 → n = T.2.length ∧ OrdRow w' a T.2 ∧ ∀ x, a = some x → w.heap.size ≤ x.block)
set_option maxRecDepth 100000 in
set_option maxHeartbeats 4000000 in
theorem refOrdRead_any (st : St) (w : World) (h : StOk st) : Calls Try.prog 54 #[.agg #[.string (bs st.1), .int .i64 (st.2 : Nat)]] w (RoPost w (batchS st)) := by
  have hC1 := fun W => refTakeCount_any st.1 st.2 8 W (by decide) (by decide) h.2 h.1
  have k1 := countS_stOk (most := 8) h
  have hle := countS_le st 8
  have hR : batchS st = runS orderS (countS st 8).2 (countS st 8).1 := rfl
  have HF : Hid (∀ a n c W, Below w.heap.size w W → ((batchS st).1.2 = 0 → n = (batchS st).2.length ∧ OrdRow W a (batchS st).2 ∧ ∀ x, a = some x → w.heap.size ≤ x.block) → RoPost w (batchS st) (.returned (.tuple #[.agg #[.string (bs (batchS st).1.1), .int .i64 ((batchS st).1.2 : Nat)], .slice a n c])) W) := Lib.hid fun a n c W h1 h2 => ⟨a, n, c, rfl, h1, Lib.hid h2⟩
  generalize RoPost w (batchS st) = Post at HF ⊢
  generalize batchS st = T at HF hR
  have HB0 := Lib.hid (D1.new w st)
  obtain ⟨l0, e0⟩ := st
  simp only at hC1 hR HB0 hle ⊢
  generalize countS (l0, e0) 8 = t1 at hC1 hR k1 hle
  obtain ⟨s1, n⟩ := t1
  simp only [inV] at hC1
  simp only at hR k1 hle
  have HC1 := Lib.hid hC1
  have HR := Lib.hid hR
  have HOK := Lib.hid (fun j => runS_stOk (fun s hs => orderS_stOk hs) j k1)
  have HST := Lib.hid (fun j (hj : j ≤ n) => run_stuckG (fun s hs => orderS_stOk hs) (fun s hs he => orderC.stuck hs he) k1 hj)
  clear hC1 hR h k1
  go_enter Try.func54, Try.ntmps54
  go_wp2_with fail
  refine (HC1.out _).mono ?_
  rintro r w1 ⟨rfl, hb1⟩
  have HB1 := Lib.hid (HB0.out.keep hb1)
  have HX1 := Lib.hid (HB1.out.set s1)
  have a0 := HB1.out.i0
  have a1 := HB1.out.i1
  have g0 := HB1.out.fr w.heap.size 0 (by omega) (by omega)
  have g1 := HB1.out.fr w.heap.size 1 (by omega) (by omega)
  have hz := HB1.out.lt
  have hzw : w.heap.size < w1.heap.size := by omega
  have HM : Hid (D1 w s1 (((w1.setCell ⟨w.heap.size, 0, none⟩ (.string (bs s1.1))).setCell ⟨w.heap.size, 1, none⟩ (.int .i64 (s1.2 : Nat))).alloc (.cells #[] 159)) ∧ OwnRec 159 4 (w.heap.size + 2) (some ⟨w1.heap.size, 0, none⟩) 0 (ordsI []) (((w1.setCell ⟨w.heap.size, 0, none⟩ (.string (bs s1.1))).setCell ⟨w.heap.size, 1, none⟩ (.int .i64 (s1.2 : Nat))).alloc (.cells #[] 159))) := Lib.hid (by
    have hP : ((w1.setCell ⟨w.heap.size, 0, none⟩ (.string (bs s1.1))).setCell ⟨w.heap.size, 1, none⟩ (.int .i64 (s1.2 : Nat))).heap.size = w1.heap.size := by simp
    have hn := newRec_made 159 4 w _ HX1.out.bel
    rw [hP] at hn
    exact ⟨HX1.out.keep (bel_alloc (Below.refl _ _) _), hn.1, fun x hx => by cases hx; show w.heap.size + 2 ≤ w1.heap.size; omega⟩)
  clear hb1 HB0 HB1 HC1 HX1
  go_wp2
  clear a0 a1 g0 g1 hz hzw
  generalize ((w1.setCell ⟨w.heap.size, 0, none⟩ (.string (bs s1.1))).setCell ⟨w.heap.size, 1, none⟩ (.int .i64 (s1.2 : Nat))).alloc (.cells #[] 159) = W2 at HM ⊢
  generalize w1.heap.size = G at HM ⊢
  go_loopw [5, 6] (fun v i wr => ∃ (j : Nat) (a : Option Addr) (c : Nat), j ≤ n ∧ i = .int .i64 j ∧ v = .slice a j c ∧ Hid (D1 w (runS orderS j s1).1 wr ∧ OwnRec 159 4 (w.heap.size + 2) a c (ordsI (runS orderS j s1).2) wr)) (fun _ i _ => n - (intOf i).toNat)
  case atStart => exact ⟨0, _, _, by omega, rfl, rfl, HM⟩
  case round =>
    clear HM
    obtain ⟨j, a, c, hj, rfl, rfl, HM⟩ := hrel
    have hi0 : (0 : Int) ≤ (j : Int) := by omega
    have hln := runS_len orderS j s1
    have hsj := HST.out j hj
    have hok := HOK.out j
    have HFIN : Hid ((j = n ∨ (runS orderS j s1).1.2 ≠ 0) → T.1 = (runS orderS j s1).1 ∧ (T.1.2 = 0 → T.2 = (runS orderS j s1).2)) := Lib.hid (fun hh => by
      have hq : (runS orderS n s1).1 = (runS orderS j s1).1 := by
        rcases hh with e | e
        · rw [e]
        · exact hsj e
      rw [HR.out]
      refine ⟨hq, fun hz => ?_⟩
      rw [hq] at hz
      rcases hh with e | e
      · rw [e]
      · exact absurd hz e)
    have HN : Hid (runS orderS (j + 1) s1 = ((orderS (runS orderS j s1).1).1, (runS orderS j s1).2 ++ [(orderS (runS orderS j s1).1).2])) := Lib.hid rfl
    clear hsj
    generalize runS orderS j s1 = q at HM HN hln hok HFIN
    obtain ⟨⟨lq, eq⟩, V⟩ := q
    simp only at HM HN hln hok HFIN
    have i0 := HM.out.1.i0
    have i1 := HM.out.1.i1
    have g0 := HM.out.1.fr w.heap.size 0 (by omega) (by omega)
    have g1 := HM.out.1.fr w.heap.size 1 (by omega) (by omega)
    have hz := HM.out.1.lt
    have hzw : w.heap.size < wr.heap.size := by omega
    by_cases hgo : j < n ∧ eq = 0
    · obtain ⟨hlt, rfl⟩ := hgo
      have hi1 : (j : Int) < (n : Int) := by omega
      have hO : orderS (lq, 0) = (failS (numS (numS (countS (countS (lq, 0) 4).1 1099511627776).1).1).1 (checkN ⟨((countS (lq, 0) 4).2 : Nat), ((countS (countS (lq, 0) 4).1 1099511627776).2 : Nat), unzig (numS (countS (countS (lq, 0) 4).1 1099511627776).1).2, unzig (numS (numS (countS (countS (lq, 0) 4).1 1099511627776).1).1).2⟩),
        ⟨((countS (lq, 0) 4).2 : Nat), ((countS (countS (lq, 0) 4).1 1099511627776).2 : Nat), unzig (numS (countS (countS (lq, 0) 4).1 1099511627776).1).2, unzig (numS (numS (countS (countS (lq, 0) 4).1 1099511627776).1).1).2⟩) := rfl
      have hA := fun W => refTakeCount_any lq 0 4 W (by decide) (by decide) hok.2 hok.1
      have o1 := countS_stOk (most := 4) hok
      generalize countS (lq, 0) 4 = t1 at hA hO o1
      obtain ⟨z1, n1⟩ := t1
      simp only [inV] at hA
      simp only at hO o1
      have hB := fun W => refTakeCount_any z1.1 z1.2 1099511627776 W (by decide) (by decide) o1.2 o1.1
      rw [show (z1.1, z1.2) = z1 from rfl] at hB
      have o2 := countS_stOk (most := 1099511627776) o1
      have hle2 := countS_le z1 1099511627776
      generalize countS z1 1099511627776 = t2 at hB hO o2 hle2
      obtain ⟨z2, n2⟩ := t2
      simp only [inV] at hB
      simp only at hO o2 hle2
      have hC := fun W => refTakeInt_any z2.1 z2.2 W o2.2 o2.1
      rw [show (z2.1, z2.2) = z2 from rfl] at hC
      have o3 := numS_stOk o2
      generalize numS z2 = t3 at hC hO o3
      obtain ⟨z3, n3⟩ := t3
      simp only [inV] at hC
      simp only at hO o3
      have hD := fun W => refTakeInt_any z3.1 z3.2 W o3.2 o3.1
      rw [show (z3.1, z3.2) = z3 from rfl] at hD
      generalize numS z3 = t4 at hD hO
      obtain ⟨z4, n4⟩ := t4
      simp only [inV] at hD
      simp only at hO
      generalize unzig n3 = y3 at hC hO
      generalize unzig n4 = y4 at hD hO
      have hK := fun W => refOrdCheck_any ⟨(n1 : Int), (n2 : Int), y3, y4⟩ W
      unfold ordV at hK
      simp only at hK
      generalize checkN ⟨(n1 : Int), (n2 : Int), y3, y4⟩ = x at hK hO
      have hE := fun W => refFail_any z4.1 z4.2 x W
      rw [show (z4.1, z4.2) = z4 from rfl] at hE
      generalize failS z4 x = z5 at hE hO
      simp only [inV] at hE
      rw [hO] at HN
      simp only at HN
      have HA := Lib.hid hA
      have HB := Lib.hid hB
      have HC := Lib.hid hC
      have HD := Lib.hid hD
      have HK := Lib.hid hK
      have HE := Lib.hid hE
      have HLN := Lib.hid hln
      have hwu : IntKind.i64.wrap (n2 : Int) = (n2 : Int) := by rw [IntKind.wrap_i64]; omega
      clear hA hB hC hD hK hE hO o1 o2 o3 hle2 hln hok HFIN
      go_wp2_with fail
      clear i0 i1 g0 g1 hz hzw
      refine (HA.out _).mono ?_
      rintro r u1 ⟨rfl, hb⟩
      have HM1 := Lib.hid (And.intro (HM.out.1.keep hb) (HM.out.2.touch (touch_of_below (S := fun _ => False) hb) (fun _ _ => id)))
      clear hb HA HM
      go_wp2_with fail
      refine (HB.out _).mono ?_
      rintro r u2 ⟨rfl, hb⟩
      have hb2 := (bel_alloc (Below.refl _ u1) (.cells #[.string (bs z1.1), .int .i64 (z1.2 : Nat)] 57)).trans (hb.mono (bel_alloc (Below.refl _ u1) (.cells #[.string (bs z1.1), .int .i64 (z1.2 : Nat)] 57)).size)
      have HM2 := Lib.hid (And.intro (HM1.out.1.keep hb2) (HM1.out.2.touch (touch_of_below (S := fun _ => False) hb2) (fun _ _ => id)))
      clear hb hb2 HB HM1
      go_wp2_with fail
      refine (HC.out _).mono ?_
      rintro r u3 ⟨rfl, hb⟩
      have hb2 := (bel_alloc (Below.refl _ u2) (.cells #[.string (bs z2.1), .int .i64 (z2.2 : Nat)] 57)).trans (hb.mono (bel_alloc (Below.refl _ u2) (.cells #[.string (bs z2.1), .int .i64 (z2.2 : Nat)] 57)).size)
      have HM3 := Lib.hid (And.intro (HM2.out.1.keep hb2) (HM2.out.2.touch (touch_of_below (S := fun _ => False) hb2) (fun _ _ => id)))
      clear hb hb2 HC HM2
      go_wp2_with fail
      refine (HD.out _).mono ?_
      rintro r u4 ⟨rfl, hb⟩
      have hb2 := (bel_alloc (Below.refl _ u3) (.cells #[.string (bs z3.1), .int .i64 (z3.2 : Nat)] 57)).trans (hb.mono (bel_alloc (Below.refl _ u3) (.cells #[.string (bs z3.1), .int .i64 (z3.2 : Nat)] 57)).size)
      have HM4 := Lib.hid (And.intro (HM3.out.1.keep hb2) (HM3.out.2.touch (touch_of_below (S := fun _ => False) hb2) (fun _ _ => id)))
      clear hb hb2 HD HM3
      have d0 : ((u4.alloc (.cells #[.string (bs z4.1), .int .i64 (z4.2 : Nat)] 57)).alloc (.cells #[.int .i64 (n1 : Int), .int .i64 (n2 : Int), .int .i64 y3, .int .i64 y4] 159)).cell? ⟨u4.heap.size, 0, none⟩ = some (.string (bs z4.1)) := alloc_cell (new_cell rfl rfl) _
      have d1 : ((u4.alloc (.cells #[.string (bs z4.1), .int .i64 (z4.2 : Nat)] 57)).alloc (.cells #[.int .i64 (n1 : Int), .int .i64 (n2 : Int), .int .i64 y3, .int .i64 y4] 159)).cell? ⟨u4.heap.size, 1, none⟩ = some (.int .i64 (z4.2 : Nat)) := alloc_cell (new_cell rfl rfl) _
      have e9 : u4.heap.size + 1 = (u4.alloc (.cells #[.string (bs z4.1), .int .i64 (z4.2 : Nat)] 57)).heap.size := by simp
      have v0 : ((u4.alloc (.cells #[.string (bs z4.1), .int .i64 (z4.2 : Nat)] 57)).alloc (.cells #[.int .i64 (n1 : Int), .int .i64 (n2 : Int), .int .i64 y3, .int .i64 y4] 159)).cell? ⟨u4.heap.size + 1, 0, none⟩ = some (.int .i64 (n1 : Int)) := new_cell e9 rfl
      have v1 : ((u4.alloc (.cells #[.string (bs z4.1), .int .i64 (z4.2 : Nat)] 57)).alloc (.cells #[.int .i64 (n1 : Int), .int .i64 (n2 : Int), .int .i64 y3, .int .i64 y4] 159)).cell? ⟨u4.heap.size + 1, 1, none⟩ = some (.int .i64 (n2 : Int)) := new_cell e9 rfl
      have v2 : ((u4.alloc (.cells #[.string (bs z4.1), .int .i64 (z4.2 : Nat)] 57)).alloc (.cells #[.int .i64 (n1 : Int), .int .i64 (n2 : Int), .int .i64 y3, .int .i64 y4] 159)).cell? ⟨u4.heap.size + 1, 2, none⟩ = some (.int .i64 y3) := new_cell e9 rfl
      have v3 : ((u4.alloc (.cells #[.string (bs z4.1), .int .i64 (z4.2 : Nat)] 57)).alloc (.cells #[.int .i64 (n1 : Int), .int .i64 (n2 : Int), .int .i64 y3, .int .i64 y4] 159)).cell? ⟨u4.heap.size + 1, 3, none⟩ = some (.int .i64 y4) := new_cell e9 rfl
      have HBA := Lib.hid (bel_alloc (bel_alloc (Below.refl _ u4) (.cells #[.string (bs z4.1), .int .i64 (z4.2 : Nat)] 57)) (.cells #[.int .i64 (n1 : Int), .int .i64 (n2 : Int), .int .i64 y3, .int .i64 y4] 159))
      clear e9
      have hneD : ¬ u4.heap.size = w.heap.size := by have := HM4.out.1.lt; omega
      have hneO : ¬ u4.heap.size + 1 = w.heap.size := by have := HM4.out.1.lt; omega
      go_upto_region 11 with (fail)
      generalize (u4.alloc (.cells #[.string (bs z4.1), .int .i64 (z4.2 : Nat)] 57)).alloc (.cells #[.int .i64 (n1 : Int), .int .i64 (n2 : Int), .int .i64 y3, .int .i64 y4] 159) = W5 at d0 d1 v0 v1 v2 v3 HBA ⊢
      have HM5 := Lib.hid (And.intro (HM4.out.1.keep HBA.out) (HM4.out.2.touch (touch_of_below (S := fun _ => False) HBA.out) (fun _ _ => id)))
      clear HM4 HBA
      generalize u4.heap.size + 1 = OB at v0 v1 v2 v3 hneO ⊢
      generalize u4.heap.size = DB at d0 d1 hneD ⊢
      have hDB := block_lt_of_cell d0
      have hOB := block_lt_of_cell v0
      simp only at hDB hOB
      have HM5 := Lib.hid (And.intro (HM5.out.1.keep (Below.refl _ W5).drew) (HM5.out.2.touch (touch_of_below (S := fun _ => False) (Below.refl _ W5).drew) (fun _ _ => id)))
      go_region_held3 (fun w' => (w'.cell? ⟨DB, 0, none⟩ = some (.string (bs z4.1)) ∧ w'.cell? ⟨DB, 1, none⟩ = some (.int .i64 (z4.2 : Nat))) ∧ (w'.cell? ⟨OB, 0, none⟩ = some (.int .i64 (n1 : Int)) ∧ w'.cell? ⟨OB, 1, none⟩ = some (.int .i64 (n2 : Int)) ∧ w'.cell? ⟨OB, 2, none⟩ = some (.int .i64 y3) ∧ w'.cell? ⟨OB, 3, none⟩ = some (.int .i64 y4)))
        (first | (refine keepDO hbK ?_; assumption) | assumption | exact ⟨⟨d0, d1⟩, v0, v1, v2, v3⟩ | (refine keepDOt (touch_in w wK _ _) hneD hneO ?_; assumption))
        (first
          | (go_at_call 78; refine (HK.out _).mono ?_; rintro r wK ⟨rfl, hbK⟩; have HM5 := Lib.hid (And.intro (HM5.out.1.keep hbK) (HM5.out.2.touch (touch_of_below (S := fun _ => False) hbK) (fun _ _ => id))))
          | (go_at_call 75; refine (HE.out _).mono ?_; rintro r wK ⟨rfl, hbK⟩; have HM5 := Lib.hid (And.intro (HM5.out.1.keep hbK) (HM5.out.2.touch (touch_of_below (S := fun _ => False) hbK) (fun _ _ => id))); have i0 := HM5.out.1.i0; have i1 := HM5.out.1.i1; have g0 := HM5.out.1.fr _ 0 (Nat.le_refl _) (Nat.le_succ _); have g1 := HM5.out.1.fr _ 1 (Nat.le_refl _) (Nat.le_succ _); have hzw := Nat.lt_of_succ_lt HM5.out.1.lt))
      all_goals
        have hS : (((wK.setCell ⟨w.heap.size, 0, none⟩ (.string (bs z5.1))).setCell ⟨w.heap.size, 1, none⟩ (.int .i64 (z5.2 : Nat))).cell? ⟨DB, 0, none⟩ = some (.string (bs z4.1)) ∧ ((wK.setCell ⟨w.heap.size, 0, none⟩ (.string (bs z5.1))).setCell ⟨w.heap.size, 1, none⟩ (.int .i64 (z5.2 : Nat))).cell? ⟨DB, 1, none⟩ = some (.int .i64 (z4.2 : Nat))) ∧ (((wK.setCell ⟨w.heap.size, 0, none⟩ (.string (bs z5.1))).setCell ⟨w.heap.size, 1, none⟩ (.int .i64 (z5.2 : Nat))).cell? ⟨OB, 0, none⟩ = some (.int .i64 (n1 : Int)) ∧ ((wK.setCell ⟨w.heap.size, 0, none⟩ (.string (bs z5.1))).setCell ⟨w.heap.size, 1, none⟩ (.int .i64 (z5.2 : Nat))).cell? ⟨OB, 1, none⟩ = some (.int .i64 (n2 : Int)) ∧ ((wK.setCell ⟨w.heap.size, 0, none⟩ (.string (bs z5.1))).setCell ⟨w.heap.size, 1, none⟩ (.int .i64 (z5.2 : Nat))).cell? ⟨OB, 2, none⟩ = some (.int .i64 y3) ∧ ((wK.setCell ⟨w.heap.size, 0, none⟩ (.string (bs z5.1))).setCell ⟨w.heap.size, 1, none⟩ (.int .i64 (z5.2 : Nat))).cell? ⟨OB, 3, none⟩ = some (.int .i64 y4)) := by assumption
        obtain ⟨-, v0, v1, v2, v3⟩ := hS
        have HM6 := Lib.hid (And.intro (HM5.out.1.set z5) (HM5.out.2.touch (touch_in w wK (.string (bs z5.1)) (.int .i64 (z5.2 : Nat))) (fun j hj e => by omega)))
        generalize (wK.setCell ⟨w.heap.size, 0, none⟩ (.string (bs z5.1))).setCell ⟨w.heap.size, 1, none⟩ (.int .i64 (z5.2 : Nat)) = W6 at v0 v1 v2 v3 HM6 ⊢
        have hOBl := block_lt_of_cell v0
        simp only at hOBl
        obtain ⟨a5, c5, w8, hrun, hd8, hrow⟩ := ord_step HM6.out.1 HM6.out.2 ⟨(n1 : Int), (n2 : Int), y3, y4⟩ j HLN.out (by omega)
        simp only at hrun
        have HRUN := Lib.hid hrun
        have HM7 := Lib.hid (And.intro hd8 hrow)
        clear HM5 HM6 hrun hrow hd8 i0 i1 g0 g1 hzw d0 d1 hDB hOB HK HE
        go_wp2_with (at_builtin; refine wpList_append_run _ rfl (.tmp 61) (.tmp 63) 107 107 rfl _ _ rfl rfl (.slice a5 (j + 1) c5) w8 HRUN.out ?_)
        go_roundw
        case rel => exact ⟨j + 1, a5, c5, by omega, by go_num, rfl, Lib.hid (by rw [HN.out]; exact HM7.out)⟩
        case measure => simp [intOf] <;> omega
    · have hex : j = n ∨ eq ≠ 0 := by omega
      obtain ⟨hT1, hT2⟩ := HFIN.out hex
      have p0 := HM.out.1.s0
      have p1 := HM.out.1.s1
      have d0 := HM.out.1.fr (w.heap.size + 1) 0 (by omega) (by omega)
      have d1 := HM.out.1.fr (w.heap.size + 1) 1 (by omega) (by omega)
      have HBW := Lib.hid (HM.out.1.res (.string (bs lq)) (.int .i64 (eq : Nat)))
      have HAC : Hid (T.1.2 = 0 → j = T.2.length ∧ OrdRow ((wr.setCell ⟨w.heap.size + 1, 0, none⟩ (.string (bs lq))).setCell ⟨w.heap.size + 1, 1, none⟩ (.int .i64 (eq : Nat))) a T.2 ∧ ∀ x, a = some x → w.heap.size ≤ x.block) := Lib.hid (fun hz2 => by
        have e2 := hT2 hz2
        rw [e2]
        have hrow : OrdRow wr a V := (HM.out.2.row (ordsI_wide V) (by decide))
        exact ⟨hln.symm, RecRow.touch (by decide) hrow (touch_res w wr _ _) (fun x hx e => by have := HM.out.2.2 x hx; omega), fun x hx => by have := HM.out.2.2 x hx; omega⟩)
      have HF1 := Lib.hid hT1
      clear hln hok HN hT1 hT2 HFIN HR HOK HST HM
      by_cases hlt : j < n
      · have hi1 : (j : Int) < (n : Int) := by omega
        have he : eq ≠ 0 := by omega
        have heb : ((eq : Int) == 0) = false := by rw [beq_eq_false_iff_ne]; omega
        have hei : ¬ (eq : Int) = 0 := by omega
        go_wp2
        refine bodyPost_ret (v := .tuple #[.agg #[.string (bs lq), .int .i64 (eq : Nat)], .slice a j c]) (by simp [results, Try.results54, go_sem, p0, p1]) rfl ?_
        have HX := HF.out a j c _ HBW.out HAC.out
        rw [HF1.out] at HX
        exact HX
      · have hi1 : (n : Int) ≤ (j : Int) := by omega
        go_wp2
        refine bodyPost_ret (v := .tuple #[.agg #[.string (bs lq), .int .i64 (eq : Nat)], .slice a j c]) (by simp [results, Try.results54, go_sem, p0, p1]) rfl ?_
        have HX := HF.out a j c _ HBW.out HAC.out
        rw [HF1.out] at HX
        exact HX
end Go.Proofs.Ytcbadcbnknmdnaa
