/-
  The document's own reading of an image: what it comes to.
-/
import Derived.Test.YtmonbjlkkhpinaaDoorRefFun
namespace Go.Proofs.YtmonbjlkkhpinaaDoor
open Go.RowKit
set_option linter.unusedVariables false

theorem ROwn.far {B : Nat} {l : List Pf} {a : Option Addr} {c : Nat} {wr : World} (h : ROwn B l a c wr) {p : Addr} (hp : p.block < B) (u : Value) : ROwn B l a c (wr.setCell p u) := by
  have ht : Touch (fun k => k = p.block) wr (wr.setCell p u) := (Touch.refl (fun k => k = p.block) wr).setCell (p := p) (fun _ => rfl) _
  refine ⟨own_touch h.row ht (fun k hk e => by have := (h.own k hk).1; omega), fun q hq => (h.rows q hq).touch' ht (fun k hk e => by have := (h.owns q hq k hk).1; omega), h.own, fun q hq k hk => ?_⟩
  exact ⟨(h.owns q hq k hk).1, Nat.lt_of_lt_of_le (h.owns q hq k hk).2 ht.size⟩
theorem fnS_stOk {st : St} (h : StOk st) : StOk (fnS st).1 := by
  have h1 : StOk (countS st 16).1 := countS_stOk h
  have h2 : StOk (countS (countS st 16).1 16).1 := countS_stOk h1
  have h3 : StOk (countS (countS (countS st 16).1 16).1 128).1 := countS_stOk h2
  simp only [fnS]
  generalize countS (countS (countS st 16).1 16).1 128 = t at h3
  exact runS_stOk (f := insS) (fun st h => insS_stOk h) _ h3
def RParsePost (w : World) (l : List UInt8) (e : Ending) (w' : World) : Prop :=
  ∃ a c, e = .returned (.tuple #[.slice a (parseS l).1.length c, .int .i64 ((parseS l).2 : Nat)]) ∧ RFnRow w' a (parseS l).1 ∧ Below w.heap.size w w'
/-- The reader's cells, and what was read so far. -/
structure PiMem (w : World) (I : Nat) (lq : List UInt8) (eq : Nat) (P : List Pf) (x : Option Addr) (c : Nat) (wr : World) : Prop where
  i0 : wr.cell? ⟨I, 0, none⟩ = some (.string (bs lq))
  i1 : wr.cell? ⟨I, 1, none⟩ = some (.int .i64 (eq : Nat))
  g0 : wr.frozen? ⟨I, 0, none⟩ = false
  g1 : wr.frozen? ⟨I, 1, none⟩ = false
  own : ROwn (I + 1) P x c wr
  hI : w.heap.size ≤ I
  lt : I + 1 < wr.heap.size
  bel : Below w.heap.size w wr
theorem PiMem.keep {w : World} {I : Nat} {lq : List UInt8} {eq : Nat} {P : List Pf} {x : Option Addr} {c : Nat} {wr w' : World} (h : PiMem w I lq eq P x c wr) (hb : Below wr.heap.size wr w') : PiMem w I lq eq P x c w' := by
  have hl : I < wr.heap.size := by have := h.lt; omega
  exact ⟨(hb.cell (p := ⟨I, 0, none⟩) hl).trans h.i0, (hb.cell (p := ⟨I, 1, none⟩) hl).trans h.i1, (hb.frozen (p := ⟨I, 0, none⟩) hl).trans h.g0, (hb.frozen (p := ⟨I, 1, none⟩) hl).trans h.g1, h.own.below hb, h.hI, by have := hb.size; have := h.lt; omega, h.bel.trans (hb.mono h.bel.size)⟩
theorem PiMem.set {w : World} {I : Nat} {lq : List UInt8} {eq : Nat} {P : List Pf} {x : Option Addr} {c : Nat} {wr : World} (h : PiMem w I lq eq P x c wr) (l' : List UInt8) (e' : Nat) : PiMem w I l' e' P x c ((wr.setCell ⟨I, 0, none⟩ (.string (bs l'))).setCell ⟨I, 1, none⟩ (.int .i64 (e' : Nat))) := by
  have hI := h.hI
  exact ⟨by rw [World.cell?_setCell_other _ _ _ _ (by simp)]; exact World.cell?_setCell_same _ _ _ h.i0, World.cell?_setCell_same _ _ _ ((World.cell?_setCell_other _ _ _ _ (by simp)).trans h.i1), by simpa using h.g0, by simpa using h.g1,
    (h.own.far (p := ⟨I, 0, none⟩) (by simp) _).far (p := ⟨I, 1, none⟩) (by simp) _, hI, by simpa using h.lt, (h.bel.setCell hI _).setCell hI _⟩
set_option maxHeartbeats 8000000 in
set_option maxRecDepth 100000 in
theorem refParse_any (s : ByteArray) (w : World) (hs : s.size ≤ 1000000000) : Calls Tryd.prog 20 #[.string s] w (RParsePost w s.data.toList) := by
  have hP : parseS s.data.toList = if (endS (runS fnS (countS (s.data.toList, 0) 16).2 (countS (s.data.toList, 0) 16).1).1).2 ≠ 0 then ([], (endS (runS fnS (countS (s.data.toList, 0) 16).2 (countS (s.data.toList, 0) 16).1).1).2)
    else ((runS fnS (countS (s.data.toList, 0) 16).2 (countS (s.data.toList, 0) 16).1).2, 0) := rfl
  have hpost : RParsePost w s.data.toList = fun e w' => ∃ a c, e = .returned (.tuple #[.slice a (parseS s.data.toList).1.length c, .int .i64 ((parseS s.data.toList).2 : Nat)]) ∧ RFnRow w' a (parseS s.data.toList).1 ∧ Below w.heap.size w w' := rfl
  generalize RParsePost w s.data.toList = Post at hpost
  generalize parseS s.data.toList = pr at hP hpost
  have hC := fun W => refTakeCount_any s.data.toList 0 16 W (by decide) (by decide) (by simpa using hs) (by simp)
  rw [bs_eta] at hC
  have hok1 : StOk (countS (s.data.toList, 0) 16).1 := countS_stOk ⟨by simp, by simpa using hs⟩
  have hq : (countS (s.data.toList, 0) 16).2 ≤ 16 := countS_le (s.data.toList, 0) 16
  generalize countS (s.data.toList, 0) 16 = t1 at hP hq hC hok1
  obtain ⟨⟨l1, e1⟩, n⟩ := t1
  simp only [inV_eq] at hC
  simp only at hP hq hok1
  rw [show ((0 : Nat) : Int) = 0 from rfl] at hC
  have HP := Lib.hid hP
  have HPost := Lib.hid hpost
  have HC := Lib.hid hC
  have HOK := Lib.hid hok1
  clear hP hpost hC hok1
  go_enter Tryd.func20, Tryd.ntmps20
  go_wp2_with fail
  refine (HC.out _).mono ?_
  rintro r w1 ⟨rfl, hb1⟩
  have hzI : w.heap.size ≤ w1.heap.size := hb1.size
  have HM : Hid (PiMem w w1.heap.size l1 e1 [] (some ⟨w1.heap.size + 1, 0, none⟩) 0 ((w1.alloc (.cells #[.string (bs l1), .int .i64 (e1 : Nat)] 89)).alloc (.cells #[] 63))) := Lib.hid (by
    have hz1 : (w1.alloc (.cells #[.string (bs l1), .int .i64 (e1 : Nat)] 89)).heap.size = w1.heap.size + 1 := by simp
    have hs := ROwn.start (w1.alloc (.cells #[.string (bs l1), .int .i64 (e1 : Nat)] 89))
    rw [hz1] at hs
    refine ⟨?_, ?_, ?_, ?_, hs, hzI, by simp, (hb1.alloc hzI _).alloc (by omega) _⟩
    · rw [World.cell?_alloc_lt _ _ _ (by show w1.heap.size < _; omega)]; simp
    · rw [World.cell?_alloc_lt _ _ _ (by show w1.heap.size < _; omega)]; simp
    · rw [frozen_old _ _ _ (by show w1.heap.size < _; omega)]; exact frozen_new _ _ _ _
    · rw [frozen_old _ _ _ (by show w1.heap.size < _; omega)]; exact frozen_new _ _ _ _)
  clear hb1 HC
  go_wp2
  generalize (w1.alloc (.cells #[.string (bs l1), .int .i64 (e1 : Nat)] 89)).alloc (.cells #[] 63) = W1 at HM
  generalize w1.heap.size = I at HM hzI
  go_loopw [6, 7] (fun o i wr => ∃ (k : Nat) (lq : List UInt8) (eq : Nat) (P : List Pf) (x : Option Addr) (c : Nat), k ≤ n ∧ i = .int .i64 k ∧ o = .slice x P.length c ∧ P.length = k ∧ Hid ((runS fnS k (l1, e1)).1 = (lq, eq)) ∧ Hid (eq = 0 → P.map Pf.fn = (runS fnS k (l1, e1)).2) ∧ Hid (PiMem w I lq eq P x c wr)) (fun _ i _ => n - (intOf i).toNat)
  case atStart => exact ⟨0, l1, e1, [], _, _, by omega, rfl, rfl, rfl, Lib.hid rfl, Lib.hid (fun _ => rfl), HM⟩
  case round =>
    obtain ⟨k, lq, eq, P, x, c, hk, rfl, rfl, hPk, HQ, HPM, HB⟩ := hrel
    have hPl : P.length ≤ 1000 := by omega
    have HPK := Lib.hid hPk
    clear hPk
    have HSO : Hid (StOk (lq, eq)) := Lib.hid (by have := runS_stOk (f := fnS) (fun st h => fnS_stOk h) k HOK.out; rw [HQ.out] at this; exact this)
    have a0 := HB.out.i0
    have a1 := HB.out.i1
    have g0 := HB.out.g0
    have g1 := HB.out.g1
    have hlt' := HB.out.lt
    have hIl : I < wr.heap.size := by omega
    by_cases hgo : k < n ∧ eq = 0
    · obtain ⟨hlt, rfl⟩ := hgo
      have HN : Hid (runS fnS (k + 1) (l1, e1) = ((fnS (lq, 0)).1, (runS fnS k (l1, e1)).2 ++ [(fnS (lq, 0)).2])) := Lib.hid (by
        show ((fnS (runS fnS k (l1, e1)).1).1, (runS fnS k (l1, e1)).2 ++ [(fnS (runS fnS k (l1, e1)).1).2]) = _
        rw [HQ.out])
      have hI : ∀ W, Calls Tryd.prog 47 #[.agg #[.string (bs lq), .int .i64 ((0 : Nat) : Int)]] W (fun r w' => ∃ l x c, r = .returned (.tuple #[.agg #[.string (bs (fnS (lq, 0)).1.1), .int .i64 ((fnS (lq, 0)).1.2 : Nat)], .agg #[.int .i64 (fnS (lq, 0)).2.args, .int .i64 (fnS (lq, 0)).2.locals, .slice x l.length c]]) ∧ Below W.heap.size W w' ∧
        w'.ownsRow 0 65 2 (.slice x l.length c) l.length (rCodeCells l) ∧ (∀ k, (Value.slice x l.length c).ownBlock = some k → W.heap.size ≤ k) ∧ ((fnS (lq, 0)).1.2 = 0 → l = (fnS (lq, 0)).2.code)) := fun W => refFun_any (lq, 0) W HSO.out
      generalize fnS (lq, 0) = y at HN hI
      obtain ⟨⟨ly, ey⟩, ⟨ar, lo, cy⟩⟩ := y
      simp only at HN hI
      rw [show ((0 : Nat) : Int) = 0 from rfl] at a1 hI
      have HI := Lib.hid hI
      clear hI
      go_wp2_with fail
      refine (HI.out _).mono ?_
      rintro r w8 ⟨l, x8, c8, rfl, hb8, ho8, hn8, he8⟩
      have HB8 := Lib.hid (HB.out.keep hb8)
      have HO8 := Lib.hid ho8
      have HN8 := Lib.hid hn8
      have HE8 := Lib.hid he8
      have hz8 := hb8.size
      have hIr : I + 1 < wr.heap.size := hlt'
      have hoB : ∀ k, (Value.slice x P.length c).ownBlock = some k → k < wr.heap.size := fun k hk => (HB.out.own.row.lt k hk).2
      have HOB := Lib.hid hoB
      clear hb8 ho8 hn8 he8 a0 a1 g0 g1 hlt' hIl HB hoB
      have a0 := HB8.out.i0
      have a1 := HB8.out.i1
      have g0 := HB8.out.g0
      have g1 := HB8.out.g1
      have hlt8 := HB8.out.lt
      have hIl : I < w8.heap.size := by omega
      have HB9 := Lib.hid (HB8.out.set ly ey)
      have hzS : ((w8.setCell ⟨I, 0, none⟩ (.string (bs ly))).setCell ⟨I, 1, none⟩ (.int .i64 (ey : Nat))).heap.size = w8.heap.size := by simp
      have ht9 : Touch (fun k => k = I) w8 ((w8.setCell ⟨I, 0, none⟩ (.string (bs ly))).setCell ⟨I, 1, none⟩ (.int .i64 (ey : Nat))) := ((Touch.refl (fun k => k = I) w8).setCell (p := ⟨I, 0, none⟩) (fun _ => rfl) _).setCell (p := ⟨I, 1, none⟩) (fun _ => rfl) _
      have HO9 := Lib.hid (own_touch HO8.out ht9 (fun k hk e => by have := HN8.out k hk; omega))
      have HBa : Hid (Below ((w8.setCell ⟨I, 0, none⟩ (.string (bs ly))).setCell ⟨I, 1, none⟩ (.int .i64 (ey : Nat))).heap.size ((w8.setCell ⟨I, 0, none⟩ (.string (bs ly))).setCell ⟨I, 1, none⟩ (.int .i64 (ey : Nat))) ((((w8.setCell ⟨I, 0, none⟩ (.string (bs ly))).setCell ⟨I, 1, none⟩ (.int .i64 (ey : Nat))).alloc (.cells #[.string (bs ly), .int .i64 (ey : Nat)] 89)).alloc (.cells #[.int .i64 ar, .int .i64 lo, .slice x8 l.length c8] 63))) := Lib.hid (((Below.refl _ _).alloc (Nat.le_refl _) _).alloc (by simp) _)
      have HB10 := Lib.hid (HB9.out.keep HBa.out)
      have HO10 := Lib.hid (own_touch HO9.out (touch_of_below (S := fun _ => False) HBa.out) (fun _ _ => id))
      have hz10 : ((((w8.setCell ⟨I, 0, none⟩ (.string (bs ly))).setCell ⟨I, 1, none⟩ (.int .i64 (ey : Nat))).alloc (.cells #[.string (bs ly), .int .i64 (ey : Nat)] 89)).alloc (.cells #[.int .i64 ar, .int .i64 lo, .slice x8 l.length c8] 63)).heap.size = w8.heap.size + 1 + 1 := by simp
      have hp := HB10.out.own.push (by rw [hz10]; omega) ⟨⟨ar, lo, l⟩, x8, c8⟩ (RInsRow.of_own HO10.out) (fun q hq => by
        have h1 := HN8.out q hq
        have h2 := (HO10.out.lt q hq).2
        refine ⟨by omega, h2, fun e => ?_⟩
        have := HOB.out q e
        omega) hPl
      simp only at hp
      rw [hz10] at hp
      obtain ⟨a5, c5, w5, hr5, hf5, hb5⟩ := hp
      have HR5 := Lib.hid hr5
      have HM5 : Hid (PiMem w I ly ey (P ++ [⟨⟨ar, lo, l⟩, x8, c8⟩]) a5 c5 w5) := Lib.hid (by
        have hi := HB10.out
        have hzz := hb5.size
        rw [hz10] at hzz
        exact ⟨(hb5.cell (p := ⟨I, 0, none⟩) (by simp)).trans hi.i0, (hb5.cell (p := ⟨I, 1, none⟩) (by simp)).trans hi.i1, (hb5.frozen (p := ⟨I, 0, none⟩) (by simp)).trans hi.g0, (hb5.frozen (p := ⟨I, 1, none⟩) (by simp)).trans hi.g1, hf5, hi.hI, by omega, hi.bel.trans (hb5.mono (by have := hi.hI; omega))⟩)
      clear hr5 hf5 hb5 hzS hz10 HBa HB9 HB10 HO9 HO10 ht9
      go_wp2_with (first | (at_builtin; refine wpList_append_run _ rfl (.tmp 33) (.tmp 35) 35 35 rfl _ _ rfl rfl (.slice a5 (P.length + 1) c5) w5 HR5.out ?_))
      go_roundw
      case rel => exact ⟨k + 1, ly, ey, P ++ [⟨⟨ar, lo, l⟩, x8, c8⟩], a5, c5, by omega, by go_num, by simp, by simp; exact HPK.out, Lib.hid (by rw [HN.out]), Lib.hid (fun h => by rw [HN.out, List.map_append, HPM.out (by first | rfl | trivial), HE8.out h]; rfl), HM5⟩
      case measure => simp [intOf]; omega
    · have HFin : Hid ((runS fnS n (l1, e1)).1 = (lq, eq) ∧ (eq = 0 → (runS fnS n (l1, e1)).2 = P.map Pf.fn)) := Lib.hid (by
        by_cases he : eq = 0
        · obtain rfl : k = n := by omega
          exact ⟨HQ.out, fun h => (HPM.out h).symm⟩
        · exact ⟨runS_stuck fnC k n hk (l1, e1) lq eq HQ.out he (HSO.out.1 he), fun h => absurd h he⟩)
      have hcase : ¬ k < n ∨ (k < n ∧ ((eq : Int) == 0) = false) := by
        by_cases h1 : k < n
        · exact .inr ⟨h1, by simp; omega⟩
        · exact .inl h1
      clear hgo HPK
      have HEN := Lib.hid (fun W => refEnd_any lq eq W HSO.out.1)
      have HP1 := Lib.hid HP.out
      rw [HFin.out.1] at HP1
      have HE0 : Hid ((endS (lq, eq)).2 = 0 → eq = 0) := Lib.hid (fun h => by
        unfold endS failS at h
        split at h
        · split at h
          · simp at h
          · exact h
        · exact h)
      generalize endS (lq, eq) = y at HEN HP1 HE0
      obtain ⟨ly, ey⟩ := y
      simp only at HEN HP1 HE0
      by_cases hey : ey = 0
      · subst hey
        have HP2 := Lib.hid (HP1.out.trans (if_neg (by simp)))
        rw [HFin.out.2 (HE0.out rfl)] at HP2
        rw [show ((0 : Nat) : Int) = 0 from rfl] at HEN
        clear HP HP1
        rcases hcase with h1 | ⟨h1, h2⟩
        all_goals
          go_wp2_with fail
          refine (HEN.out _).mono ?_
          rintro r w9 ⟨rfl, hb9⟩
          have HB9 := Lib.hid (HB.out.keep hb9)
          clear hb9
          go_wp2
          rw [HPost.out]
          refine ⟨x, c, ?_, ?_, HB9.out.bel⟩
          · rw [HP2.out]; simp
          · rw [HP2.out]; exact HB9.out.own.fns
      · have hyb : ((ey : Int) != 0) = true := by simp; omega
        have HP2 := Lib.hid (HP1.out.trans (if_pos hey))
        clear HP HP1 hey
        rcases hcase with h1 | ⟨h1, h2⟩
        all_goals
          go_wp2_with fail
          refine (HEN.out _).mono ?_
          rintro r w9 ⟨rfl, hb9⟩
          have HB9 := Lib.hid (HB.out.keep hb9)
          have a0 := HB9.out.i0
          have a1 := HB9.out.i1
          have hIl : I < w9.heap.size := block_lt_of_cell a0
          clear hb9
          go_wp2_with fail
          refine (HEN.out _).mono ?_
          rintro r w10 ⟨rfl, hb10⟩
          have HB10 := Lib.hid (HB9.out.bel.trans (hb10.mono HB9.out.bel.size))
          clear hb10
          go_wp2
          rw [HPost.out]
          refine ⟨none, 0, ?_, ?_, HB10.out⟩
          · rw [HP2.out]; rfl
          · rw [HP2.out]; exact fun h => by simp at h
end Go.Proofs.YtmonbjlkkhpinaaDoor
