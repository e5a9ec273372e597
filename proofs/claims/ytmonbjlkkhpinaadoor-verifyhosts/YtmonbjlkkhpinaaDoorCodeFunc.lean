/-
  Layer 3: a function of bytes.
-/
import Derived.Test.YtmonbjlkkhpinaaDoorCodeRead
import Derived.Deep.RegionLaw
import Derived.Deep.Cut
namespace Go.Proofs.YtmonbjlkkhpinaaDoor
open Go.RowKit
set_option linter.unusedVariables false

/-- The memory of readFunc: the reader at b; the function at F (instructions l so far); the result behind w, not yet written. -/
structure RfMem (w : World) (b F : Nat) (ar lo : Int) (st : St) (l : List (Nat × Int)) (a : Option Addr) (c : Nat) (wr : World) : Prop where
  inst : InSt wr b st
  row : wr.ownsRow 0 47 2 (.slice a l.length c) l.length (codeCells l)
  f0 : wr.cell? ⟨F, 0, none⟩ = some (.int .i64 ar)
  f1 : wr.cell? ⟨F, 1, none⟩ = some (.int .i64 lo)
  f2 : wr.cell? ⟨F, 2, none⟩ = some (.slice a l.length c)
  z2 : wr.frozen? ⟨F, 2, none⟩ = false
  r0 : wr.cell? ⟨w.heap.size, 0, none⟩ = some (.int .i64 0)
  r1 : wr.cell? ⟨w.heap.size, 1, none⟩ = some (.int .i64 0)
  r2 : wr.cell? ⟨w.heap.size, 2, none⟩ = some (.slice none 0 0)
  g0 : wr.frozen? ⟨w.heap.size, 0, none⟩ = false
  g1 : wr.frozen? ⟨w.heap.size, 1, none⟩ = false
  g2 : wr.frozen? ⟨w.heap.size, 2, none⟩ = false
  own : ∀ k, (Value.slice a l.length c).ownBlock = some k → w.heap.size < k ∧ k ≠ F
  hF : w.heap.size < F
  lt : F < wr.heap.size
  hb : b < w.heap.size
  tch : Touch (fun k => k = b) w wr
theorem RfMem.step {w : World} {b F : Nat} {ar lo : Int} {st st' : St} {l : List (Nat × Int)} {a : Option Addr} {c : Nat} {wr wq w4 : World} (h : RfMem w b F ar lo st l a c wr) (hq : wq = wr.drew ∨ wq = wr) (hi : InTo wq b st' w4) (op : Nat) (ag : Int) (hl : l.length ≤ 1000) :
    w4.cell? ⟨F, 2, none⟩ = some (.slice a l.length c) ∧ F < w4.heap.size ∧ ∃ a5 c5 w5, (Builtin.append_ #[27, 27] 27 #[.slice a l.length c, .slice (some ⟨w4.heap.size, 0, none⟩) 1 1]).run Tryd.prog (w4.alloc (.cells #[.int .u8 op, .int .i64 ag] 47)) = .ok (.slice a5 (l.length + 1) c5) w5 ∧
      w5.cell? ⟨F, 2, none⟩ = some (.slice a l.length c) ∧ w5.frozen? ⟨F, 2, none⟩ = false ∧ RfMem w b F ar lo st' (l ++ [(op, ag)]) a5 c5 (w5.setCell ⟨F, 2, none⟩ (.slice a5 (l.length + 1) c5)) := by
  have ht4 : Touch (fun k => k = b) wr w4 := by
    rcases hq with rfl | rfl
    · exact hi.2.drew0
    · exact hi.2
  have hz4 := ht4.size
  have hbr := h.hb
  have hFr := h.lt
  have hFw := h.hF
  have hFb : ¬ F = b := by omega
  have hRb : ¬ w.heap.size = b := by omega
  have hRl : w.heap.size < wr.heap.size := by omega
  have hown4 : w4.ownsRow 0 47 2 (.slice a l.length c) l.length (codeCells l) := own_touch h.row ht4 (fun k hk e => by have := (h.own k hk).1; omega)
  have hrow : InsRow (w4.alloc (.cells #[.int .u8 op, .int .i64 ag] 47)) (some ⟨w4.heap.size, 0, none⟩) [(op, ag)] := InsRow.lit w4 [(op, ag)] _ _ rfl
  obtain ⟨v5, w5, hrun, ho5, hg5, hf5⟩ := code_append (hown4.alloc (.cells #[.int .u8 op, .int .i64 ag] 47)) (some ⟨w4.heap.size, 0, none⟩) 1 hrow (fun h => by cases h) (by simp; omega)
  obtain ⟨a5, c5, rfl⟩ := own_slice ho5
  have ht5 : Touch (fun k => (Value.slice a l.length c).ownBlock = some k) w4 w5 := ((Touch.refl _ w4).alloc _).trans (touch_grown hg5)
  have hz5 := ht5.size
  have nF : ¬ (Value.slice a l.length c).ownBlock = some F := fun e => (h.own F e).2 rfl
  have nR : ¬ (Value.slice a l.length c).ownBlock = some w.heap.size := fun e => by have := (h.own _ e).1; omega
  have nb : ¬ (Value.slice a l.length c).ownBlock = some b := fun e => by have := (h.own _ e).1; omega
  have kc4 : ∀ j, w4.cell? ⟨F, j, none⟩ = wr.cell? ⟨F, j, none⟩ := fun j => ht4.cell (p := ⟨F, j, none⟩) hFr hFb
  have kc5 : ∀ j, w5.cell? ⟨F, j, none⟩ = wr.cell? ⟨F, j, none⟩ := fun j => (ht5.cell (p := ⟨F, j, none⟩) (by show F < _; omega) nF).trans (kc4 j)
  have kf5 : w5.frozen? ⟨F, 2, none⟩ = false := ((ht5.frozen (p := ⟨F, 2, none⟩) (by show F < _; omega) nF).trans (ht4.frozen (p := ⟨F, 2, none⟩) hFr hFb)).trans h.z2
  have rc5 : ∀ j, w5.cell? ⟨w.heap.size, j, none⟩ = wr.cell? ⟨w.heap.size, j, none⟩ := fun j => (ht5.cell (p := ⟨w.heap.size, j, none⟩) (by show w.heap.size < _; omega) nR).trans (ht4.cell (p := ⟨w.heap.size, j, none⟩) hRl hRb)
  have rf5 : ∀ j, w5.frozen? ⟨w.heap.size, j, none⟩ = wr.frozen? ⟨w.heap.size, j, none⟩ := fun j => (ht5.frozen (p := ⟨w.heap.size, j, none⟩) (by show w.heap.size < _; omega) nR).trans (ht4.frozen (p := ⟨w.heap.size, j, none⟩) hRl hRb)
  have hFwR : ¬ w.heap.size = F := by omega
  have hS : Touch (fun k => k = F) w5 (w5.setCell ⟨F, 2, none⟩ (.slice a5 (l.length + 1) c5)) := (Touch.refl (fun k => k = F) w5).setCell (p := ⟨F, 2, none⟩) (fun _ => rfl) _
  have rcS : ∀ j, (w5.setCell ⟨F, 2, none⟩ (.slice a5 (l.length + 1) c5)).cell? ⟨w.heap.size, j, none⟩ = wr.cell? ⟨w.heap.size, j, none⟩ := fun j => (hS.cell (p := ⟨w.heap.size, j, none⟩) (by show w.heap.size < _; omega) hFwR).trans (rc5 j)
  have rfS : ∀ j, (w5.setCell ⟨F, 2, none⟩ (.slice a5 (l.length + 1) c5)).frozen? ⟨w.heap.size, j, none⟩ = wr.frozen? ⟨w.heap.size, j, none⟩ := fun j => (hS.frozen (p := ⟨w.heap.size, j, none⟩) (by show w.heap.size < _; omega) hFwR).trans (rf5 j)
  have hnew : ∀ k, (Value.slice a5 (l.length + 1) c5).ownBlock = some k → w.heap.size < k ∧ k ≠ F := by
    intro k hk
    rcases hf5 k hk with h' | h'
    · exact h.own k h'
    · simp at h'; omega
  have hb4 : b < w4.heap.size := by omega
  refine ⟨(kc4 2).trans h.f2, by omega, a5, c5, w5, hrun, (kc5 2).trans h.f2, kf5, ?_⟩
  have hll : (l ++ [(op, ag)]).length = l.length + 1 := by simp
  refine ⟨?_, ?_, ?_, ?_, ?_, ?_, (rcS 0).trans h.r0, (rcS 1).trans h.r1, (rcS 2).trans h.r2, (rfS 0).trans h.g0, (rfS 1).trans h.g1, (rfS 2).trans h.g2, ?_, hFw, ?_, hbr, ?_⟩
  · exact (hi.1.touch ht5 nb).touch hS (by omega)
  · rw [hll]; exact own_touch ho5 hS (fun k hk e => (hnew k hk).2 e)
  · rw [World.cell?_setCell_other _ _ _ _ (by simp)]; exact (kc5 0).trans h.f0
  · rw [World.cell?_setCell_other _ _ _ _ (by simp)]; exact (kc5 1).trans h.f1
  · rw [hll]; exact World.cell?_setCell_same _ _ _ ((kc5 2).trans h.f2)
  · simpa using kf5
  · rw [hll]; exact hnew
  · have := hS.size; omega
  · exact ((h.tch.trans ht4).trans' ht5 (fun k hk e => by have := (h.own k e).1; omega)).trans' hS (fun k hk e => by omega)
/-- What readFunc leaves: the function by value, its instructions in a row that none had before. -/
def RfPost (w : World) (b : Nat) (st : St) (r : Ending) (w' : World) : Prop :=
  ∃ a c, r = .returned (.agg #[.int .i64 (fnS st).2.args, .int .i64 (fnS st).2.locals, .slice a (fnS st).2.code.length c]) ∧ InTo w b (fnS st).1 w' ∧
    w'.ownsRow 0 47 2 (.slice a (fnS st).2.code.length c) (fnS st).2.code.length (codeCells (fnS st).2.code) ∧ ∀ k, (Value.slice a (fnS st).2.code.length c).ownBlock = some k → w.heap.size < k
theorem new3 {w w1 : World} {b : Nat} {x y z : Value} {t : TypeId} (hb : b < w.heap.size) (h : Touch (fun k => k = b) (w.alloc (.cells #[x, y, z] t)) w1) :
    (∀ j, w1.cell? ⟨w.heap.size, j, none⟩ = (#[x, y, z] : Array Value)[j]?) ∧ (∀ j, w1.frozen? ⟨w.heap.size, j, none⟩ = false) ∧ w.heap.size < w1.heap.size := by
  have hne : ¬ w.heap.size = b := by omega
  have hz := h.size
  exact ⟨fun j => (h.cell (p := ⟨w.heap.size, j, none⟩) (by simp) hne).trans (by simp), fun j => (h.frozen (p := ⟨w.heap.size, j, none⟩) (by simp) hne).trans (frozen_new _ _ _ _), by simp at hz; omega⟩
theorem RfMem.start {w w2 w3 : World} {b : Nat} {ar lo : Int} {st : St} (hb : b < w.heap.size) (ht2 : Touch (fun k => k = b) (w.alloc (.cells #[.int .i64 0, .int .i64 0, .slice none 0 0] 29)) w2)
    (h3 : InTo (w2.alloc (.cells #[.int .i64 ar, .int .i64 lo, .slice none 0 0] 29)) b st w3) : RfMem w b w2.heap.size ar lo st [] none 0 w3 := by
  obtain ⟨c1, f1, z1⟩ := new3 hb (ht2.trans (((Touch.refl (fun k => k = b) w2).alloc _).trans h3.2))
  have hb2 : b < w2.heap.size := by have := ht2.size; simp at this; omega
  obtain ⟨c2, f2, z2⟩ := new3 hb2 h3.2
  have hz2 := ht2.size
  simp at hz2
  exact ⟨h3.1, World.ownsRow_nil _ _ _ _, (c2 0).trans rfl, (c2 1).trans rfl, (c2 2).trans rfl, f2 2, (c1 0).trans rfl, (c1 1).trans rfl, (c1 2).trans rfl, f1 0, f1 1, f1 2, fun k hk => by simp [Value.ownBlock] at hk, by omega, z2, hb, ((Touch.refl _ w).alloc _).trans (ht2.trans (((Touch.refl _ w2).alloc _).trans h3.2))⟩
theorem RfMem.fin {w : World} {b F : Nat} {ar lo : Int} {st : St} {l : List (Nat × Int)} {a : Option Addr} {c : Nat} {wr : World} (h : RfMem w b F ar lo st l a c wr) (u0 u1 u2 : Value) :
    InTo w b st (((wr.setCell ⟨w.heap.size, 0, none⟩ u0).setCell ⟨w.heap.size, 1, none⟩ u1).setCell ⟨w.heap.size, 2, none⟩ u2) ∧
    (((wr.setCell ⟨w.heap.size, 0, none⟩ u0).setCell ⟨w.heap.size, 1, none⟩ u1).setCell ⟨w.heap.size, 2, none⟩ u2).ownsRow 0 47 2 (.slice a l.length c) l.length (codeCells l) := by
  have ht : Touch (fun k => k = w.heap.size) wr (((wr.setCell ⟨w.heap.size, 0, none⟩ u0).setCell ⟨w.heap.size, 1, none⟩ u1).setCell ⟨w.heap.size, 2, none⟩ u2) := (((Touch.refl (fun k => k = w.heap.size) wr).setCell (p := ⟨w.heap.size, 0, none⟩) (fun _ => rfl) _).setCell (p := ⟨w.heap.size, 1, none⟩) (fun _ => rfl) _).setCell (p := ⟨w.heap.size, 2, none⟩) (fun _ => rfl) _
  have hb := h.hb
  exact ⟨⟨h.inst.touch ht (by omega), h.tch.trans' ht (fun k hk e => by omega)⟩, own_touch h.row ht (fun k hk e => by have := (h.own k hk).1; omega)⟩
set_option maxHeartbeats 2000000 in
theorem readFunc_any (b : Nat) (st : St) (w : World) (h : InSt w b st) : Calls Tryd.prog 38 #[.pointer (some ⟨b, 0, none⟩)] w (RfPost w b st) := by
  have hb := h.lt
  have HC1 := Lib.hid (count_any b st.1 st.2 16 _ (by decide) (by decide) (h.alloc (.cells #[.int .i64 0, .int .i64 0, .slice none 0 0] 29)))
  have hF : fnS st = ((runS insS (countS (countS (countS st 16).1 16).1 128).2 (countS (countS (countS st 16).1 16).1 128).1).1,
   ⟨((countS st 16).2 : Nat), ((countS (countS st 16).1 16).2 : Nat), (runS insS (countS (countS (countS st 16).1 16).1 128).2 (countS (countS (countS st 16).1 16).1 128).1).2⟩) := rfl
  have hq := countS_le (countS (countS st 16).1 16).1 128
  have hpost : RfPost w b st = fun r w' => ∃ a c, r = .returned (.agg #[.int .i64 (fnS st).2.args, .int .i64 (fnS st).2.locals, .slice a (fnS st).2.code.length c]) ∧ InTo w b (fnS st).1 w' ∧
    w'.ownsRow 0 47 2 (.slice a (fnS st).2.code.length c) (fnS st).2.code.length (codeCells (fnS st).2.code) ∧ ∀ k, (Value.slice a (fnS st).2.code.length c).ownBlock = some k → w.heap.size < k := rfl
  generalize RfPost w b st = Post at hpost
  rw [hF] at hpost
  simp only at hpost
  have HPost := Lib.hid hpost
  clear hF hpost h
  generalize countS st 16 = t1 at HC1 hq HPost
  obtain ⟨st1, ar⟩ := t1
  simp only at hq HPost
  have hC2 := fun (w' : World) (h' : InSt w' b st1) => count_any b st1.1 st1.2 16 w' (by decide) (by decide) h'
  generalize countS st1 16 = t2 at hC2 hq HPost
  obtain ⟨st2, lo⟩ := t2
  simp only at hq HPost
  have HC2 := Lib.hid hC2
  have hC3 := fun (w' : World) (h' : InSt w' b st2) => count_any b st2.1 st2.2 128 w' (by decide) (by decide) h'
  generalize countS st2 128 = t3 at hC3 hq HPost
  obtain ⟨st3, n⟩ := t3
  simp only at hq HPost
  have HC3 := Lib.hid hC3
  clear hC2 hC3
  go_enter Tryd.func38, Tryd.ntmps38
  go_wp2_with fail
  refine HC1.out.mono ?_
  rintro r w1 ⟨rfl, hi1⟩
  have HI1 := Lib.hid hi1
  clear hi1 HC1
  go_wp2_with fail
  refine (HC2.out _ HI1.out.1).mono ?_
  rintro r w2 ⟨rfl, hi2⟩
  have HI2 := Lib.hid (HI1.out.trans hi2)
  clear hi2 HC2 HI1
  go_wp2_with fail
  refine (HC3.out _ (HI2.out.1.alloc _)).mono ?_
  rintro r w3 ⟨rfl, hi3⟩
  have HM := Lib.hid (RfMem.start hb HI2.out.2 hi3)
  clear hi3 HC3 HI2
  generalize w2.heap.size = F at HM
  simp only
  go_wp2
  go_loopw [11] (fun i wr => ∃ (k : Nat) (a : Option Addr) (c : Nat), k ≤ n ∧ i = .int .i64 k ∧ Hid (RfMem w b F ar lo (runS insS k st3).1 (runS insS k st3).2 a c wr)) (fun i _ => n - (intOf i).toNat)
  case atStart => exact ⟨0, none, 0, by omega, rfl, HM⟩
  case round =>
    obtain ⟨k, a, c, hk, rfl, HR⟩ := hrel
    have hln := runS_len insS k st3
    by_cases hlt : k < n
    · have HN : Hid (runS insS (k + 1) st3 = ((insS (runS insS k st3).1).1, (runS insS k st3).2 ++ [(insS (runS insS k st3).1).2])) := Lib.hid rfl
      generalize runS insS k st3 = q at HR HN hln
      obtain ⟨sq, lq⟩ := q
      simp only at HR HN hln
      have hll : lq.length ≤ 1000 := by omega
      have HLN := Lib.hid hln
      clear hln
      have HRI := Lib.hid (readInstr_any b sq wr.drew HR.out.inst)
      generalize insS sq = x at HN HRI
      obtain ⟨sx, op, ag⟩ := x
      simp only at HN HRI
      have f2 := HR.out.f2
      have hFl := HR.out.lt
      go_upto_region 4 with (fail)
      go_region_law (first
        | (refine step_append_run _ rfl (.tmp 14) (.tmp 17) 27 27 rfl _ _ (by rfl) (by rfl) (.slice a5 (lq.length + 1) c5) w5 HR5.out ?_)
        | (go_simp; go_at_call 56; refine HRI.out.mono ?_; rintro r w4 ⟨rfl, hi4⟩; obtain ⟨f4, hF4, a5, c5, w5, hr5, f5, z5, hm5⟩ := HR.out.step (.inl rfl) hi4 op ag hll; have HR5 := Lib.hid hr5; have HM5 := Lib.hid hm5; clear hi4 hr5 hm5))
      all_goals
        go_wp2
        go_roundw
        case rel => exact ⟨k + 1, a5, c5, by omega, by go_num, Lib.hid (by rw [HN.out]; exact HM5.out)⟩
        case measure => simp [intOf]; omega
    · obtain rfl : n = k := by omega
      have HFI := Lib.hid (HR.out.fin (.int .i64 ar) (.int .i64 lo) (.slice a (runS insS n st3).2.length c))
      have HOW := Lib.hid HR.out.own
      obtain ⟨-, -, f0, f1, f2, -, r0, r1, r2, g0, g1, g2, -, hFw, hFl, -, -⟩ := HR.out
      have hRl : w.heap.size < wr.heap.size := by omega
      have HLN := Lib.hid hln
      clear hln HR
      generalize runS insS n st3 = q at HFI HOW f2 HPost HLN
      obtain ⟨sq, lq⟩ := q
      simp only at HFI HOW f2 HPost HLN
      go_wp2
      refine bodyPost_ret (v := .agg #[.int .i64 ar, .int .i64 lo, .slice a lq.length c]) (by simp [results, Tryd.results38, go_sem, r0, r1, r2]) rfl ?_
      rw [HPost.out]
      exact ⟨a, c, rfl, HFI.out.1, HFI.out.2, fun k hk => (HOW.out k hk).1⟩
end Go.Proofs.YtmonbjlkkhpinaaDoor
