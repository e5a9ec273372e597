/-
  Layer 8: a unit out of bytes.
-/
import Derived.Test.YtdkokfpbmmjfkaaUnMath
import Derived.Test.YtdkokfpbmmjfkaaUnit3
namespace Go.Proofs.Ytdkokfpbmmjfkaa
open Go.RowKit
set_option linter.unusedVariables false

/-- A unit in a box of its own: its number, the fields so far. -/
structure UBox (U : Nat) (id : Int) (l : List Int) (W : World) : Prop where
  c0 : W.cell? ⟨U, 0, none⟩ = some (.int .i64 id)
  c : ∀ j, j < 5 → W.cell? ⟨U, j + 1, none⟩ = some (.int .i64 (l.getD j 0))
  f : ∀ j, W.frozen? ⟨U, j, none⟩ = false
theorem UBox.lt {U : Nat} {id : Int} {l : List Int} {W : World} (h : UBox U id l W) : U < W.heap.size := block_lt_of_cell h.c0
theorem UBox.touch {S : Nat → Prop} {U : Nat} {id : Int} {l : List Int} {W w' : World} (h : UBox U id l W) (ht : Touch S W w') (hs : ¬ S U) : UBox U id l w' :=
  ⟨(ht.cell (p := ⟨U, 0, none⟩) h.lt hs).trans h.c0, fun j hj => (ht.cell (p := ⟨U, j + 1, none⟩) h.lt hs).trans (h.c j hj), fun j => (ht.frozen (p := ⟨U, j, none⟩) h.lt hs).trans (h.f j)⟩
theorem UBox.set {U : Nat} {id : Int} {l : List Int} {W : World} (h : UBox U id l W) (hl : l.length < 5) (x : Int) : UBox U id (l ++ [x]) (W.setCell ⟨U, 1 + l.length, none⟩ (.int .i64 x)) := by
  rw [Nat.add_comm 1]
  refine ⟨(World.cell?_setCell_other _ _ _ _ (by simp)).trans h.c0, fun j hj => ?_, fun j => by simpa using h.f j⟩
  by_cases e : j = l.length
  · subst e
    rw [World.cell?_setCell_same _ _ _ (h.c _ hj)]
    simp
  · rw [World.cell?_setCell_other _ _ _ _ (by simp), h.c j hj]
    by_cases h2 : j < l.length
    · simp [List.getD, List.getElem?_append_left h2]
    · simp [List.getD, List.getElem?_eq_none (show l.length ≤ j by omega), List.getElem?_eq_none (show (l ++ [x]).length ≤ j by simp; omega)]
theorem UBox.new (W : World) (id : Int) (t : TypeId) : UBox W.heap.size id [] (W.alloc (.cells #[.int .i64 id, .int .i64 0, .int .i64 0, .int .i64 0, .int .i64 0, .int .i64 0] t)) := by
  refine ⟨by simp, fun j hj => ?_, fun j => frozen_new _ _ _ _⟩
  have e : j = 0 ∨ j = 1 ∨ j = 2 ∨ j = 3 ∨ j = 4 := by omega
  rcases e with rfl | rfl | rfl | rfl | rfl <;> simp
/-- The reader at b, the unit at U, the answer's box. -/
structure RuMem (w : World) (b U : Nat) (id : Int) (q : St × List Int) (wr : World) : Prop where
  inst : InSt wr b q.1
  box : UBox U id q.2 wr
  rb : UBox w.heap.size 0 [] wr
  tch : Touch (fun k => k = b) w wr
  ne : w.heap.size < U
theorem RuMem.step {w : World} {b U : Nat} {id : Int} {q : St × List Int} {wr wa : World} {s' : St} (h : RuMem w b U id q wr) (hb : b < w.heap.size) (ha : InTo wr b s' wa) (hl : q.2.length < 5) (x : Int) : RuMem w b U id (s', q.2 ++ [x]) (wa.setCell ⟨U, 1 + q.2.length, none⟩ (.int .i64 x)) := by
  have hne := h.ne
  have hs : Touch (fun k => k = U) wa (wa.setCell ⟨U, 1 + q.2.length, none⟩ (.int .i64 x)) := (Touch.refl (fun k => k = U) wa).setCell (p := ⟨U, 1 + q.2.length, none⟩) (fun _ => rfl) _
  exact ⟨ha.1.touch hs (by show ¬ b = U; omega), (h.box.touch ha.2 (by show ¬ U = b; omega)).set hl x, (h.rb.touch ha.2 (by show ¬ w.heap.size = b; omega)).touch hs (by show ¬ w.heap.size = U; omega), (h.tch.trans ha.2).trans' hs (fun j hj e => by omega), h.ne⟩
theorem set6_touch (w : World) (X : Nat) (x0 x1 x2 x3 x4 x5 : Value) : Touch (fun k => k = X) w (set6 w X x0 x1 x2 x3 x4 x5) :=
  ((((((Touch.refl (fun k => k = X) w).setCell (p := ⟨X, 0, none⟩) (fun _ => rfl) _).setCell (p := ⟨X, 1, none⟩) (fun _ => rfl) _).setCell (p := ⟨X, 2, none⟩) (fun _ => rfl) _).setCell (p := ⟨X, 3, none⟩) (fun _ => rfl) _).setCell (p := ⟨X, 4, none⟩) (fun _ => rfl) _).setCell (p := ⟨X, 5, none⟩) (fun _ => rfl) _
theorem RuMem.fin {w : World} {b U : Nat} {id : Int} {q : St × List Int} {wr : World} (h : RuMem w b U id q wr) (hb : b < w.heap.size) (x0 x1 x2 x3 x4 x5 : Value) : InTo w b q.1 (set6 wr w.heap.size x0 x1 x2 x3 x4 x5) := by
  have hs := set6_touch wr w.heap.size x0 x1 x2 x3 x4 x5
  exact ⟨h.inst.touch hs (by show ¬ b = w.heap.size; omega), h.tch.trans' hs (fun j hj e => by omega)⟩
def rdU (last : Int) (st : St) : St × Un := rdG fieldS (cntS 1099511627776) last st
theorem fieldS_eq (f : Nat) (st : St) : fieldS f st = (failS (numS st).1 (if mayN f (unzig (numS st).2) then 0 else 4), unzig (numS st).2) := rfl
theorem cntS_eq (m : Nat) (st : St) : cntS m st = countS st (m : Int) := rfl
theorem fsG_stOk' {k : Nat} {st : St} (h : StOk st) : StOk (fsG fieldS k st).1 := fsG_stOk fldR h
set_option maxRecDepth 100000 in
set_option maxHeartbeats 4000000 in
theorem readUnit_any (b : Nat) (st : St) (last : Int) (w : World) (h : InSt w b st) (h0 : 0 ≤ last) (h1 : last ≤ 1099511627776) :
    Calls Try.prog 63 #[.pointer (some ⟨b, 0, none⟩), .int .i64 last] w fun r w' => r = .returned (unV (rdU last st).2) ∧ InTo w b (rdU last st).1 w' := by
  have hb := h.lt
  have hC := count_any b st.1 st.2 1099511627776 (w.alloc (.cells #[.int .i64 0, .int .i64 0, .int .i64 0, .int .i64 0, .int .i64 0, .int .i64 0] 35)) (by decide) (by decide) (h.alloc _)
  have hle := (cntR 1099511627776 (by decide)).le st
  have hS := rdG_eq fieldS (cntS 1099511627776) last st
  rw [← show rdU last st = rdG fieldS (cntS 1099511627776) last st from rfl] at hS
  rw [show countS (st.1, st.2) 1099511627776 = cntS 1099511627776 st from rfl] at hC
  generalize rdU last st = res at hS
  generalize cntS 1099511627776 st = t at hC hle hS
  obtain ⟨s1, n⟩ := t
  simp only at hle hS
  have HC := Lib.hid hC
  have HS := Lib.hid hS
  clear hC hS
  have hwr : IntKind.i64.wrap (last + (n : Int)) = last + (n : Int) := by rw [IntKind.wrap_i64]; omega
  go_enter Try.func63, Try.ntmps63
  go_wp2_with fail
  refine HC.out.mono ?_
  rintro r w1 ⟨rfl, hi1⟩
  have HM : Hid (RuMem w b w1.heap.size (last + (n : Int)) (s1, []) (w1.alloc (.cells #[.int .i64 (last + (n : Int)), .int .i64 0, .int .i64 0, .int .i64 0, .int .i64 0, .int .i64 0] 35))) :=
    Lib.hid ⟨hi1.1.alloc _, UBox.new w1 _ _, ((UBox.new w 0 35).touch hi1.2 (by show ¬ w.heap.size = b; omega)).touch (touch_of_below (S := fun _ => False) (bel_alloc (Below.refl _ _) _)) id, (((Touch.refl _ w).alloc _).trans hi1.2).alloc _, by have := hi1.2.size; simp at this; omega⟩
  clear hi1 HC
  simp only
  go_wp2
  generalize last + (n : Int) = id at HM HS
  generalize w1.heap.size = U at HM ⊢
  go_loopw [13] (fun iv wr => ∃ k : Nat, k ≤ 5 ∧ iv = .int .i64 k ∧ Hid (RuMem w b U id (fsG fieldS k s1) wr)) (fun iv _ => 5 - (intOf iv).toNat)
  case atStart => exact ⟨0, by omega, rfl, HM⟩
  case round =>
    obtain ⟨k, hk, rfl, HR⟩ := hrel
    by_cases hlt : k < 5
    · have hN := fsG_succ fieldS k s1
      have hln := fsG_len fieldS k s1
      generalize fsG fieldS k s1 = q at HR hN hln
      obtain ⟨sq, lq⟩ := q
      simp only at HR hN hln
      rw [fieldS_eq] at hN
      have hI := inInt_any b sq.1 sq.2 wr HR.out.inst
      rw [show (sq.1, sq.2) = sq from rfl] at hI
      generalize numS sq = t2 at hI hN
      obtain ⟨s2, m⟩ := t2
      simp only at hI hN
      generalize unzig m = x at hI hN
      have HI := Lib.hid hI
      have HN := Lib.hid hN
      have HLN := Lib.hid hln
      have HMB := Lib.hid (fun W => fieldMayBe_any k x W (by omega))
      clear hI hN hln
      have hk0 : (0 : Int) ≤ (k : Int) := by omega
      have hk1 : (k : Int) < (5 : Int) := by omega
      cases hm : mayN k x
      · rw [hm] at HMB
        have HNF := Lib.hid (show fsG fieldS (k + 1) s1 = (failS s2 4, lq ++ [x]) by rw [HN.out, hm]; rfl)
        clear hm HN
        go_wp2_with fail
        refine HI.out.mono ?_
        rintro r w2 ⟨rfl, hi2⟩
        have HI2 := Lib.hid hi2
        clear hi2
        go_wp2_with fail
        refine (HMB.out _).mono ?_
        rintro r w3 ⟨rfl, rfl⟩
        have HF := Lib.hid (fail_any b s2.1 s2.2 4 w2 (by decide) HI2.out.1)
        go_wp2_with fail
        refine HF.out.mono ?_
        rintro r w3 ⟨rfl, hi3⟩
        rw [show (s2.1, s2.2) = s2 from rfl] at hi3
        have HM3 := Lib.hid (HR.out.step hb (HI2.out.trans hi3) (by rw [HLN.out]; exact hlt) x)
        simp only [HLN.out] at HM3
        have hbox := (HR.out.box.touch (HI2.out.trans hi3).2 (by show ¬ U = b; have := HR.out.ne; omega))
        have hc := hbox.c k hlt
        rw [Nat.add_comm k] at hc
        have hf := hbox.f (1 + k)
        have hUl := hbox.lt
        clear hi3 HI2 HF hbox
        go_wp2
        go_roundw
        case rel => exact ⟨k + 1, by omega, by go_num, by rw [HNF.out]; exact HM3⟩
        case measure => simp [intOf]; omega
      · rw [hm] at HMB
        have HNF := Lib.hid (show fsG fieldS (k + 1) s1 = (s2, lq ++ [x]) by rw [HN.out, hm]; simp [failS])
        clear hm HN
        go_wp2_with fail
        refine HI.out.mono ?_
        rintro r w2 ⟨rfl, hi2⟩
        have HI2 := Lib.hid hi2
        clear hi2
        go_wp2_with fail
        refine (HMB.out _).mono ?_
        rintro r w3 ⟨rfl, rfl⟩
        have HM3 := Lib.hid (HR.out.step hb HI2.out (by rw [HLN.out]; exact hlt) x)
        simp only [HLN.out] at HM3
        have hbox := (HR.out.box.touch HI2.out.2 (by show ¬ U = b; have := HR.out.ne; omega))
        have hc := hbox.c k hlt
        rw [Nat.add_comm k] at hc
        have hf := hbox.f (1 + k)
        have hUl := hbox.lt
        clear HI2 hbox
        go_wp2
        go_roundw
        case rel => exact ⟨k + 1, by omega, by go_num, by rw [HNF.out]; exact HM3⟩
        case measure => simp [intOf]; omega
    · obtain rfl : k = 5 := by omega
      have c0 := HR.out.box.c0
      have c1 := HR.out.box.c 0 (by decide)
      have c2 := HR.out.box.c 1 (by decide)
      have c3 := HR.out.box.c 2 (by decide)
      have c4 := HR.out.box.c 3 (by decide)
      have c5 := HR.out.box.c 4 (by decide)
      have r0 := HR.out.rb.c0
      have r1 := HR.out.rb.c 0 (by decide)
      have r2 := HR.out.rb.c 1 (by decide)
      have r3 := HR.out.rb.c 2 (by decide)
      have r4 := HR.out.rb.c 3 (by decide)
      have r5 := HR.out.rb.c 4 (by decide)
      have z0 := HR.out.rb.f 0
      have z1 := HR.out.rb.f 1
      have z2 := HR.out.rb.f 2
      have z3 := HR.out.rb.f 3
      have z4 := HR.out.rb.f 4
      have z5 := HR.out.rb.f 5
      have hRU := HR.out.ne
      have hUl := HR.out.box.lt
      have hRl := HR.out.rb.lt
      generalize hl0 : (fsG fieldS 5 s1).2.getD 0 0 = y0 at c1
      generalize hl1 : (fsG fieldS 5 s1).2.getD 1 0 = y1 at c2
      generalize hl2 : (fsG fieldS 5 s1).2.getD 2 0 = y2 at c3
      generalize hl3 : (fsG fieldS 5 s1).2.getD 3 0 = y3 at c4
      generalize hl4 : (fsG fieldS 5 s1).2.getD 4 0 = y4 at c5
      have HE := Lib.hid (show unV res.2 = .agg #[.int .i64 id, .int .i64 y0, .int .i64 y1, .int .i64 y2, .int .i64 y3, .int .i64 y4] by rw [HS.out]; simp only [unOf, unV, hl0, hl1, hl2, hl3, hl4])
      have HFN := Lib.hid (HR.out.fin hb (.int .i64 id) (.int .i64 y0) (.int .i64 y1) (.int .i64 y2) (.int .i64 y3) (.int .i64 y4))
      unfold set6 at HFN
      have HSR := Lib.hid (show res.1 = (fsG fieldS 5 s1).1 by rw [HS.out])
      clear hl0 hl1 hl2 hl3 hl4 HR HS HM
      go_wp2
      rw [HE.out, HSR.out]
      exact bodyPost_ret (v := .agg #[.int .i64 id, .int .i64 y0, .int .i64 y1, .int .i64 y2, .int .i64 y3, .int .i64 y4]) (by simp [results, Try.results63, go_sem, r0, r1, r2, r3, r4, r5]) rfl ⟨rfl, HFN.out⟩
end Go.Proofs.Ytdkokfpbmmjfkaa
