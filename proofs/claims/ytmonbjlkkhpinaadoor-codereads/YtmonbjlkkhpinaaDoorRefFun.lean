/-
  The document's own reading of a function: what it comes to.
-/
import Derived.Test.YtmonbjlkkhpinaaDoorRefParse
namespace Go.Proofs.YtmonbjlkkhpinaaDoor
open Go.RowKit
set_option linter.unusedVariables false

theorem Bx.keepB {w wr w' : World} {A1 A2 A3 : Array Value} {B : Nat} (h : Bx w wr A1 A2 A3) (hb : Below B wr w') (hB : w.heap.size + 1 + 1 < B) : Bx w w' A1 A2 A3 := by
  have hs := h.sz
  exact ⟨fun j => (hb.cell (p := ⟨w.heap.size, j, none⟩) (by show w.heap.size < _; omega)).trans (h.c1 j), fun j => (hb.cell (p := ⟨w.heap.size + 1, j, none⟩) (by show w.heap.size + 1 < _; omega)).trans (h.c2 j), fun j => (hb.cell (p := ⟨w.heap.size + 1 + 1, j, none⟩) hB).trans (h.c3 j),
    fun j => (hb.frozen (p := ⟨w.heap.size, j, none⟩) (by show w.heap.size < _; omega)).trans (h.f1 j), fun j => (hb.frozen (p := ⟨w.heap.size + 1, j, none⟩) (by show w.heap.size + 1 < _; omega)).trans (h.f2 j), fun j => (hb.frozen (p := ⟨w.heap.size + 1 + 1, j, none⟩) hB).trans (h.f3 j),
    by have := hb.size; omega, h.bel.trans (hb.mono (by omega))⟩
theorem RFnAt.far {F : Nat} {ar lo : Int} {l : List (Nat × Int)} {a : Option Addr} {c : Nat} {wr : World} (h : RFnAt F ar lo l a c wr) {p : Addr} (hp : p.block < F) (u : Value) : RFnAt F ar lo l a c (wr.setCell p u) := by
  have ht : Touch (fun k => k = p.block) wr (wr.setCell p u) := (Touch.refl (fun k => k = p.block) wr).setCell (p := p) (fun _ => rfl) _
  have hF : ¬ F = p.block := by omega
  exact ⟨own_touch h.row ht (fun k hk e => by have := h.own k hk; omega), (ht.cell (p := ⟨F, 0, none⟩) h.lt hF).trans h.f0, (ht.cell (p := ⟨F, 1, none⟩) h.lt hF).trans h.f1, (ht.cell (p := ⟨F, 2, none⟩) h.lt hF).trans h.f2, (ht.frozen (p := ⟨F, 2, none⟩) h.lt hF).trans h.z2, h.own, Nat.lt_of_lt_of_le h.lt ht.size⟩
theorem runS_add {α : Type} (f : St → St × α) (k j : Nat) (st : St) : (runS f (k + j) st).1 = (runS f j (runS f k st).1).1 := by
  induction j with
  | zero => rfl
  | succ j ih =>
    show (f (runS f (k + j) st).1).1 = (f (runS f j (runS f k st).1).1).1
    rw [ih]
theorem runS_stuck {α : Type} {f : St → St × α} {enc : α → List UInt8} {dom : α → Prop} (hf : Codec f enc dom) (k n : Nat) (hk : k ≤ n) (st : St) (l : List UInt8) (e : Nat) (h : (runS f k st).1 = (l, e)) (he : e ≠ 0) (hl : l = []) : (runS f n st).1 = (l, e) := by
  subst hl
  obtain ⟨j, rfl⟩ := Nat.le.dest hk
  rw [runS_add, h]
  exact (hf.run j).stick e he
/-- The results stored, in whatever order. -/
theorem fin5 {w wr : World} {A1 A2 A3 : Array Value} {F : Nat} {ar lo : Int} {l : List (Nat × Int)} {x : Option Addr} {c : Nat} (hB : Bx w wr A1 A2 A3) (hF : RFnAt F ar lo l x c wr) (hz : w.heap.size + 1 + 1 < F) {p1 p2 p3 p4 p5 : Addr} (u1 u2 u3 u4 u5 : Value)
    (h1 : p1.block = w.heap.size + 1 ∨ p1.block = w.heap.size + 1 + 1) (h2 : p2.block = w.heap.size + 1 ∨ p2.block = w.heap.size + 1 + 1) (h3 : p3.block = w.heap.size + 1 ∨ p3.block = w.heap.size + 1 + 1) (h4 : p4.block = w.heap.size + 1 ∨ p4.block = w.heap.size + 1 + 1) (h5 : p5.block = w.heap.size + 1 ∨ p5.block = w.heap.size + 1 + 1) :
    Below w.heap.size w (((((wr.setCell p1 u1).setCell p2 u2).setCell p3 u3).setCell p4 u4).setCell p5 u5) ∧ (((((wr.setCell p1 u1).setCell p2 u2).setCell p3 u3).setCell p4 u4).setCell p5 u5).ownsRow 0 65 2 (.slice x l.length c) l.length (rCodeCells l) := by
  have hf := ((((hF.far (p := p1) (by omega) u1).far (p := p2) (by omega) u2).far (p := p3) (by omega) u3).far (p := p4) (by omega) u4).far (p := p5) (by omega) u5
  exact ⟨((((hB.bel.setCell (by omega) _).setCell (by omega) _).setCell (by omega) _).setCell (by omega) _).setCell (by omega) _, hf.row⟩
def RfunPost (w : World) (st : St) (r : Ending) (w' : World) : Prop :=
  ∃ l x c, r = .returned (.tuple #[.agg #[.string (bs (fnS st).1.1), .int .i64 ((fnS st).1.2 : Nat)], .agg #[.int .i64 (fnS st).2.args, .int .i64 (fnS st).2.locals, .slice x l.length c]]) ∧ Below w.heap.size w w' ∧
    w'.ownsRow 0 65 2 (.slice x l.length c) l.length (rCodeCells l) ∧ (∀ k, (Value.slice x l.length c).ownBlock = some k → w.heap.size ≤ k) ∧ ((fnS st).1.2 = 0 → l = (fnS st).2.code)
set_option maxHeartbeats 8000000 in
set_option maxRecDepth 100000 in
theorem refFun_any (st : St) (w : World) (h : StOk st) : Calls Tryd.prog 47 #[.agg #[.string (bs st.1), .int .i64 (st.2 : Nat)]] w (RfunPost w st) := by
  have hF : fnS st = ((runS insS (countS (countS (countS st 16).1 16).1 128).2 (countS (countS (countS st 16).1 16).1 128).1).1,
   ⟨((countS st 16).2 : Nat), ((countS (countS st 16).1 16).2 : Nat), (runS insS (countS (countS (countS st 16).1 16).1 128).2 (countS (countS (countS st 16).1 16).1 128).1).2⟩) := rfl
  have hpost : RfunPost w st = fun r w' => ∃ l x c, r = .returned (.tuple #[.agg #[.string (bs (fnS st).1.1), .int .i64 ((fnS st).1.2 : Nat)], .agg #[.int .i64 (fnS st).2.args, .int .i64 (fnS st).2.locals, .slice x l.length c]]) ∧ Below w.heap.size w w' ∧
    w'.ownsRow 0 65 2 (.slice x l.length c) l.length (rCodeCells l) ∧ (∀ k, (Value.slice x l.length c).ownBlock = some k → w.heap.size ≤ k) ∧ ((fnS st).1.2 = 0 → l = (fnS st).2.code) := rfl
  generalize RfunPost w st = Post at hpost
  rw [hF] at hpost
  simp only at hpost
  have HPost := Lib.hid hpost
  clear hF hpost
  obtain ⟨l0, e0⟩ := st
  have hC1 := fun W => refTakeCount_any l0 e0 16 W (by decide) (by decide) h.2 h.1
  have hok1 : StOk (countS (l0, e0) 16).1 := countS_stOk h
  have HB0 := Lib.hid (Bx.new w #[.string (bs l0), .int .i64 (e0 : Nat)] #[.string ⟨#[]⟩, .int .i64 0] #[.int .i64 0, .int .i64 0, .slice none 0 0] 89 89 63)
  generalize countS (l0, e0) 16 = t1 at hC1 HPost hok1
  obtain ⟨⟨l1, e1⟩, ar⟩ := t1
  simp only [inV_eq] at hC1
  simp only at HPost hok1
  have hC2 := fun W => refTakeCount_any l1 e1 16 W (by decide) (by decide) hok1.2 hok1.1
  have hok2 : StOk (countS (l1, e1) 16).1 := countS_stOk hok1
  generalize countS (l1, e1) 16 = t2 at hC2 HPost hok2
  obtain ⟨⟨l2, e2⟩, lo⟩ := t2
  simp only [inV_eq] at hC2
  simp only at HPost hok2
  have hC3 := fun W => refTakeCount_any l2 e2 128 W (by decide) (by decide) hok2.2 hok2.1
  have hok3 : StOk (countS (l2, e2) 128).1 := countS_stOk hok2
  have hn : (countS (l2, e2) 128).2 ≤ 128 := countS_le (l2, e2) 128
  generalize countS (l2, e2) 128 = t3 at hC3 HPost hok3 hn
  obtain ⟨⟨l3, e3⟩, n⟩ := t3
  simp only [inV_eq] at hC3
  simp only at HPost hok3 hn
  have HC1 := Lib.hid hC1
  have HC2 := Lib.hid hC2
  have HC3 := Lib.hid hC3
  have HOK3 := Lib.hid hok3
  clear hC1 hC2 hC3 hok1 hok2 hok3 h
  go_enter Tryd.func47, Tryd.ntmps47
  go_wp2_with fail
  refine (HC1.out _).mono ?_
  rintro r w1 ⟨rfl, hb1⟩
  have HB1 := Lib.hid (HB0.out.keep hb1)
  clear hb1 HB0
  have a0 := (HB1.out.c1 0).trans rfl
  have a1 := (HB1.out.c1 1).trans rfl
  have g0 := HB1.out.f1 0
  have g1 := HB1.out.f1 1
  have hzw : w.heap.size < w1.heap.size := by have := HB1.out.sz; omega
  have HB2 := Lib.hid (HB1.out.set1 (.string (bs l1)) (.int .i64 (e1 : Nat)))
  go_wp2_with fail
  clear a0 a1 g0 g1 hzw HB1
  generalize (w1.setCell ⟨w.heap.size, 0, none⟩ (.string (bs l1))).setCell ⟨w.heap.size, 1, none⟩ (.int .i64 (e1 : Nat)) = W2 at HB2
  refine (HC2.out _).mono ?_
  rintro r w3 ⟨rfl, hb3⟩
  have HB3 := Lib.hid (HB2.out.keep hb3)
  clear hb3 HB2
  have a0 := (HB3.out.c1 0).trans rfl
  have a1 := (HB3.out.c1 1).trans rfl
  have g0 := HB3.out.f1 0
  have g1 := HB3.out.f1 1
  have hzw : w.heap.size < w3.heap.size := by have := HB3.out.sz; omega
  have HB4 := Lib.hid (HB3.out.set1 (.string (bs l2)) (.int .i64 (e2 : Nat)))
  go_wp2_with fail
  clear a0 a1 g0 g1 hzw HB3
  generalize (w3.setCell ⟨w.heap.size, 0, none⟩ (.string (bs l2))).setCell ⟨w.heap.size, 1, none⟩ (.int .i64 (e2 : Nat)) = W4 at HB4
  refine (HC3.out _).mono ?_
  rintro r w5 ⟨rfl, hb5⟩
  have HB5 := Lib.hid (HB4.out.keep hb5)
  clear hb5 HB4
  have a0 := (HB5.out.c1 0).trans rfl
  have a1 := (HB5.out.c1 1).trans rfl
  have g0 := HB5.out.f1 0
  have g1 := HB5.out.f1 1
  have hzw : w.heap.size < w5.heap.size := by have := HB5.out.sz; omega
  have HB6 := Lib.hid (HB5.out.set1 (.string (bs l3)) (.int .i64 (e3 : Nat)))
  have HZ6 : Hid (((w5.setCell ⟨w.heap.size, 0, none⟩ (.string (bs l3))).setCell ⟨w.heap.size, 1, none⟩ (.int .i64 (e3 : Nat))).heap.size = w5.heap.size) := Lib.hid (by simp)
  go_wp2_with fail
  clear a0 a1 g0 g1 hzw HB5
  generalize (w5.setCell ⟨w.heap.size, 0, none⟩ (.string (bs l3))).setCell ⟨w.heap.size, 1, none⟩ (.int .i64 (e3 : Nat)) = W6 at HB6 HZ6
  have HF0 : Hid (RFnAt w5.heap.size (ar : Nat) (lo : Nat) [] none 0 (W6.alloc (.cells #[.int .i64 (ar : Nat), .int .i64 (lo : Nat), .slice none 0 0] 63))) := Lib.hid (by
    have := RFnAt.start W6 (ar : Nat) (lo : Nat) 63
    rwa [HZ6.out] at this)
  have hzF : w.heap.size + 1 + 1 < w5.heap.size := by have := HB6.out.sz; have := HZ6.out; omega
  have HB7 := Lib.hid (HB6.out.keep ((Below.refl _ W6).alloc (Nat.le_refl _) (.cells #[.int .i64 (ar : Nat), .int .i64 (lo : Nat), .slice none 0 0] 63)))
  generalize W6.alloc (.cells #[.int .i64 (ar : Nat), .int .i64 (lo : Nat), .slice none 0 0] 63) = W7 at HF0 HB7
  generalize w5.heap.size = F at HF0 hzF HZ6
  clear HB6 HZ6
  go_loopw [8] (fun i wr => ∃ (k : Nat) (lq : List UInt8) (eq : Nat) (l : List (Nat × Int)) (x : Option Addr) (c : Nat), k ≤ n ∧ i = .int .i64 k ∧ Hid (runS insS k (l3, e3) = ((lq, eq), l)) ∧ Hid (Bx w wr #[.string (bs lq), .int .i64 (eq : Nat)] #[.string ⟨#[]⟩, .int .i64 0] #[.int .i64 0, .int .i64 0, .slice none 0 0]) ∧ Hid (RFnAt F (ar : Nat) (lo : Nat) l x c wr)) (fun i _ => n - (intOf i).toNat)
  case atStart => exact ⟨0, l3, e3, [], none, 0, by omega, rfl, Lib.hid rfl, HB7, HF0⟩
  case round =>
    obtain ⟨k, lq, eq, l, x, c, hk, rfl, HQ, HB, HFn⟩ := hrel
    have HSO : Hid (StOk (lq, eq)) := Lib.hid (by have := runS_stOk (f := insS) (fun st h => insS_stOk h) k HOK3.out; rw [HQ.out] at this; exact this)
    have hll : l.length ≤ 128 := by have := runS_len insS k (l3, e3); rw [HQ.out] at this; simp at this; omega
    have a0 := (HB.out.c1 0).trans rfl
    have a1 := (HB.out.c1 1).trans rfl
    have g0 := HB.out.f1 0
    have g1 := HB.out.f1 1
    have hsz := HB.out.sz
    have hzw : w.heap.size < wr.heap.size := by omega
    by_cases hgo : k < n ∧ eq = 0
    · obtain ⟨hlt, rfl⟩ := hgo
      have HN : Hid (runS insS (k + 1) (l3, e3) = ((insS (lq, 0)).1, l ++ [(insS (lq, 0)).2])) := Lib.hid (by
        show ((insS (runS insS k (l3, e3)).1).1, (runS insS k (l3, e3)).2 ++ [(insS (runS insS k (l3, e3)).1).2]) = _
        rw [HQ.out])
      have hI := fun W => refInstr_any (lq, 0) W HSO.out
      generalize insS (lq, 0) = y at HN hI
      obtain ⟨⟨ly, ey⟩, op, ag⟩ := y
      simp only at HN hI
      have HI := Lib.hid hI
      clear hI
      rw [show ((0 : Nat) : Int) = 0 from rfl] at a1 HI
      go_wp2_with fail
      refine (HI.out _).mono ?_
      rintro r w8 ⟨rfl, hb8⟩
      have HB8 := Lib.hid (HB.out.keep hb8)
      have HF8 := Lib.hid (HFn.out.below hb8)
      clear hb8 a0 a1 g0 g1 hsz hzw HB HFn
      have a0 := (HB8.out.c1 0).trans rfl
      have a1 := (HB8.out.c1 1).trans rfl
      have g0 := HB8.out.f1 0
      have g1 := HB8.out.f1 1
      have hsz := HB8.out.sz
      have hzw : w.heap.size < w8.heap.size := by omega
      have HB9 := Lib.hid (HB8.out.set1 (.string (bs ly)) (.int .i64 (ey : Nat)))
      have HF9 := Lib.hid ((HF8.out.far (p := ⟨w.heap.size, 0, none⟩) (by simp; omega) (.string (bs ly))).far (p := ⟨w.heap.size, 1, none⟩) (by simp; omega) (.int .i64 (ey : Nat)))
      have hzS : ((w8.setCell ⟨w.heap.size, 0, none⟩ (.string (bs ly))).setCell ⟨w.heap.size, 1, none⟩ (.int .i64 (ey : Nat))).heap.size = w8.heap.size := by simp
      have HBa : Hid (Below (w8.heap.size) ((w8.setCell ⟨w.heap.size, 0, none⟩ (.string (bs ly))).setCell ⟨w.heap.size, 1, none⟩ (.int .i64 (ey : Nat))) ((((w8.setCell ⟨w.heap.size, 0, none⟩ (.string (bs ly))).setCell ⟨w.heap.size, 1, none⟩ (.int .i64 (ey : Nat))).alloc (.cells #[.string (bs ly), .int .i64 (ey : Nat)] 89)).alloc (.cells #[.int .i64 (op : Nat), .int .i64 ag] 65))) := Lib.hid (((Below.refl _ _).alloc (by omega) _).alloc (by simp) _)
      have HBa' := HBa
      rw [← hzS] at HBa'
      have HB10 := Lib.hid (HB9.out.keep HBa'.out)
      have hp := (HF9.out.below HBa'.out).push op ag (by omega)
      have hz10 : ((((w8.setCell ⟨w.heap.size, 0, none⟩ (.string (bs ly))).setCell ⟨w.heap.size, 1, none⟩ (.int .i64 (ey : Nat))).alloc (.cells #[.string (bs ly), .int .i64 (ey : Nat)] 89)).alloc (.cells #[.int .i64 (op : Nat), .int .i64 ag] 65)).heap.size = w8.heap.size + 1 + 1 := by simp
      rw [hz10] at hp
      obtain ⟨a5, c5, w5', hr5, q5, z5, hF5, hf5, hb5⟩ := hp
      have HR5 := Lib.hid hr5
      have HF5 := Lib.hid hf5
      have HB5 := Lib.hid (HB10.out.keepB hb5 hzF)
      have f2 := HF8.out.f2
      have hFl := HF8.out.lt
      have neF : F ≠ w.heap.size := by omega
      clear hr5 hf5 hb5 hzS hz10 HBa HBa' HB9 HF9
      go_wp2_with (first | (at_builtin; refine wpList_append_run _ rfl (.tmp 46) (.tmp 48) 61 61 rfl _ _ rfl rfl (.slice a5 (l.length + 1) c5) w5' HR5.out ?_))
      go_roundw
      case rel => exact ⟨k + 1, ly, ey, l ++ [(op, ag)], a5, c5, by omega, by go_num, HN, HB5, HF5⟩
      case measure => simp [intOf]; omega
    · have HFin : Hid ((runS insS n (l3, e3)).1 = (lq, eq) ∧ (eq = 0 → (runS insS n (l3, e3)).2 = l)) := Lib.hid (by
        by_cases he : eq = 0
        · obtain rfl : k = n := by omega
          rw [HQ.out]
          exact ⟨rfl, fun _ => rfl⟩
        · exact ⟨runS_stuck insC k n hk (l3, e3) lq eq (by rw [HQ.out]) he (HSO.out.1 he), fun h => absurd h he⟩)
      have hcase : ¬ k < n ∨ (k < n ∧ ((eq : Int) == 0) = false) := by
        by_cases h1 : k < n
        · exact .inr ⟨h1, by simp; omega⟩
        · exact .inl h1
      clear hgo
      have f0 := HFn.out.f0
      have f1 := HFn.out.f1
      have f2 := HFn.out.f2
      have hFl := HFn.out.lt
      have b0 := (HB.out.c2 0).trans rfl
      have b1 := (HB.out.c2 1).trans rfl
      have d0 := (HB.out.c3 0).trans rfl
      have d1 := (HB.out.c3 1).trans rfl
      have d2 := (HB.out.c3 2).trans rfl
      have p0 := HB.out.f2 0
      have p1 := HB.out.f2 1
      have q0 := HB.out.f3 0
      have q1 := HB.out.f3 1
      have q2 := HB.out.f3 2
      have hz2 : w.heap.size + 1 < wr.heap.size := by omega
      have ne1 : F ≠ w.heap.size + 1 := by omega
      have ne2 : F ≠ w.heap.size + 1 + 1 := by omega
      rcases hcase with h1 | ⟨h1, h2⟩
      all_goals
        go_wp2_with fail
        go_region
        all_goals
          go_wp2
          refine bodyPost_ret (v := .tuple #[.agg #[.string (bs lq), .int .i64 eq], .agg #[.int .i64 ar, .int .i64 lo, .slice x l.length c]]) (by simp [results, Tryd.results47, go_sem, b0, b1, d0, d1, d2]) rfl ?_
          rw [HPost.out]
          refine ⟨l, x, c, by rw [HFin.out.1], ?_, ?_, fun k hk => by have := HFn.out.own k hk; omega, fun h => ?_⟩
          · exact (fin5 HB.out HFn.out hzF _ _ _ _ _ (by simp) (by simp) (by simp) (by simp) (by simp)).1.drew
          · exact (fin5 HB.out HFn.out hzF _ _ _ _ _ (by simp) (by simp) (by simp) (by simp) (by simp)).2
          · rw [HFin.out.1] at h
            exact (HFin.out.2 h).symm
end Go.Proofs.YtmonbjlkkhpinaaDoor
