/-
  Layer 3: an image of bytes: what the reader makes of them, as plain functions of what is left and of the error.
-/
import Derived.Test.YtmonbjlkkhpinaaDoorCodeText
import Derived.Test.YtmonbjlkkhpinaaDoorWireTake
import Derived.Test.YtmonbjlkkhpinaaDoorRefMore
namespace Go.Proofs.YtmonbjlkkhpinaaDoor
open Go.RowKit
set_option linter.unusedVariables false

abbrev St := List UInt8 × Nat
/-- Behind an error nothing is left; there is not too much. -/
def StOk (st : St) : Prop := (st.2 ≠ 0 → st.1 = []) ∧ st.1.length ≤ 1000000000
theorem countS_stOk {st : St} {most : Int} (h : StOk st) : StOk (countS st most).1 := countS_ok st most h.1 h.2
theorem numS_stOk {st : St} (h : StOk st) : StOk (numS st).1 := numS_ok st h.1 h.2
theorem failS_stOk {st : St} {x : Nat} (h : StOk st) : StOk (failS st x) := ⟨failS_ok st x h.1, by unfold failS; split; simp; exact h.2⟩
/-- An instruction. -/
def insS (st : St) : St × (Nat × Int) :=
  if hasA (countS st 22).2 then ((numS (countS st 22).1).1, ((countS st 22).2, unzig (numS (countS st 22).1).2))
  else (if (countS st 22).2 = 0 then failS (countS st 22).1 14 else (countS st 22).1, ((countS st 22).2, 0))
theorem countS_le (st : St) (most : Nat) : (countS st most).2 ≤ most := by
  unfold countS
  split
  · exact Nat.zero_le _
  · omega
theorem insS_stOk {st : St} (h : StOk st) : StOk (insS st).1 := by
  unfold insS
  split
  · exact numS_stOk (countS_stOk h)
  · split
    · exact failS_stOk (countS_stOk h)
    · exact countS_stOk h
/-- So many things, one behind the other. -/
def runS {α : Type} (f : St → St × α) : Nat → St → St × List α
  | 0, st => (st, [])
  | n + 1, st => ((f (runS f n st).1).1, (runS f n st).2 ++ [(f (runS f n st).1).2])
theorem runS_len {α : Type} (f : St → St × α) (n : Nat) (st : St) : (runS f n st).2.length = n := by
  induction n with
  | zero => rfl
  | succ n ih => simp [runS, ih]
theorem runS_stOk {α : Type} {f : St → St × α} (hf : ∀ st, StOk st → StOk (f st).1) (n : Nat) {st : St} (h : StOk st) : StOk (runS f n st).1 := by
  induction n with
  | zero => exact h
  | succ n ih => exact hf _ ih
/-- A function. -/
def fnS (st : St) : St × Fn :=
  ((runS insS (countS (countS (countS st 16).1 16).1 128).2 (countS (countS (countS st 16).1 16).1 128).1).1,
   ⟨((countS st 16).2 : Nat), ((countS (countS st 16).1 16).2 : Nat), (runS insS (countS (countS (countS st 16).1 16).1 128).2 (countS (countS (countS st 16).1 16).1 128).1).2⟩)
/-- An image: the functions, the error. -/
def parseS (l : List UInt8) : List Fn × Nat :=
  if (endS (runS fnS (countS (l, 0) 16).2 (countS (l, 0) 16).1).1).2 ≠ 0 then ([], (endS (runS fnS (countS (l, 0) 16).2 (countS (l, 0) 16).1).1).2)
  else ((runS fnS (countS (l, 0) 16).2 (countS (l, 0) 16).1).2, 0)
theorem InSt.stOk {w : World} {b : Nat} {st : St} (h : InSt w b st) : StOk st := ⟨h.2.2.2.2.2.1, h.2.2.2.2.1⟩
theorem InTo.trans {w w1 w2 : World} {b : Nat} {st st' : St} (h : InTo w b st w1) (h' : InTo w1 b st' w2) : InTo w b st' w2 := ⟨h'.1, h.2.trans h'.2⟩
theorem InSt.alloc {w : World} {b : Nat} {st : St} (h : InSt w b st) (o : Obj) : InSt (w.alloc o) b st := h.below ((Below.refl _ _).alloc (Nat.le_refl _) _)
theorem InTo.alloc0 {w w1 : World} {b : Nat} {st : St} {o : Obj} (h : InTo (w.alloc o) b st w1) : InTo w b st w1 := ⟨h.1, ((Touch.refl _ w).alloc o).trans h.2⟩
/-- What a store into a block of the call's own leaves of a reader. -/
theorem InTo.set2 {w w1 : World} {b B : Nat} {st : St} (h : InTo w b st w1) (hB : w.heap.size ≤ B) (hb : b < w.heap.size) (u v : Value) : InTo w b st ((w1.setCell ⟨B, 0, none⟩ u).setCell ⟨B, 1, none⟩ v) := by
  have ht : Touch (fun k => k = B) w1 ((w1.setCell ⟨B, 0, none⟩ u).setCell ⟨B, 1, none⟩ v) := ((Touch.refl (fun k => k = B) w1).setCell (p := ⟨B, 0, none⟩) (fun _ => rfl) _).setCell (p := ⟨B, 1, none⟩) (fun _ => rfl) _
  exact ⟨h.1.touch ht (by omega), h.2.trans' ht (fun k hk e => by omega)⟩
/-- The call's result lies as it was laid, behind calls of the reader. -/
theorem new2 {w w1 : World} {b : Nat} {x y : Value} {t : TypeId} (hb : b < w.heap.size) (h : Touch (fun k => k = b) (w.alloc (.cells #[x, y] t)) w1) :
    w1.cell? ⟨w.heap.size, 0, none⟩ = some x ∧ w1.cell? ⟨w.heap.size, 1, none⟩ = some y ∧ w1.frozen? ⟨w.heap.size, 0, none⟩ = false ∧ w1.frozen? ⟨w.heap.size, 1, none⟩ = false ∧ w.heap.size < w1.heap.size := by
  have hne : ¬ w.heap.size = b := by omega
  have hz := h.size
  exact ⟨(h.cell (p := ⟨w.heap.size, 0, none⟩) (by simp) hne).trans (by simp), (h.cell (p := ⟨w.heap.size, 1, none⟩) (by simp) hne).trans (by simp), (h.frozen (p := ⟨w.heap.size, 0, none⟩) (by simp) hne).trans (frozen_new _ _ _ _), (h.frozen (p := ⟨w.heap.size, 1, none⟩) (by simp) hne).trans (frozen_new _ _ _ _), by simp at hz; omega⟩
set_option maxHeartbeats 1000000 in
theorem readInstr_any (b : Nat) (st : St) (w : World) (h : InSt w b st) :
    Calls Tryd.prog 56 #[.pointer (some ⟨b, 0, none⟩)] w fun r w' => r = .returned (.agg #[.int .u8 (insS st).2.1, .int .i64 (insS st).2.2]) ∧ InTo w b (insS st).1 w' := by
  have hb := h.lt
  have HC := Lib.hid (count_any b st.1 st.2 22 _ (by decide) (by decide) (h.alloc (.cells #[.int .u8 0, .int .i64 0] 47)))
  have hS : insS st = if hasA (countS st 22).2 then ((numS (countS st 22).1).1, ((countS st 22).2, unzig (numS (countS st 22).1).2)) else (if (countS st 22).2 = 0 then failS (countS st 22).1 14 else (countS st 22).1, ((countS st 22).2, 0)) := rfl
  have hle : (countS st 22).2 ≤ 22 := countS_le st 22
  generalize countS st 22 = t at HC hS hle
  obtain ⟨⟨l1, e1⟩, o⟩ := t
  have HH := Lib.hid (hasArg_any o)
  have HS := Lib.hid hS
  simp only at hle HS
  clear h hS
  by_cases h0 : o = 0
  · subst h0
    have HS := Lib.hid (HS.out.trans (by rfl : _ = (failS (l1, e1) 14, ((0 : Nat), (0 : Int)))))
    go_enter Tryd.func56, Tryd.ntmps56
    go_wp2_with fail
    refine HC.out.mono ?_
    rintro r w1 ⟨rfl, hi⟩
    have HI1 := Lib.hid hi
    have HF := Lib.hid (fail_any b l1 e1 14 _ (by decide) hi.1)
    clear hi HC
    simp only
    go_wp2_with fail
    refine HF.out.mono ?_
    rintro r w2 ⟨rfl, hi⟩
    obtain ⟨c0, c1, f0, f1, hz⟩ := new2 hb (HI1.out.2.trans hi.2)
    have HI2 := Lib.hid ((HI1.out.trans hi).alloc0.set2 (Nat.le_refl _) hb (.int .u8 0) (.int .i64 0))
    clear hi HF HI1
    go_wp2_with (go_at_call 22; refine (HH.out _).mono ?_; rintro e w' ⟨rfl, rfl⟩)
    exact bodyPost_ret (v := .agg #[.int .u8 0, .int .i64 0]) (by simp [results, Tryd.results56, go_sem, c0, c1]) rfl ⟨by rw [HS.out]; rfl, by rw [HS.out]; exact HI2.out⟩
  · have hob : ((o : Int) == 0) = false := by simp; omega
    cases hA : hasA o
    · have HS2 := Lib.hid (show insS st = ((l1, e1), (o, (0 : Int))) by rw [HS.out, hA, if_neg h0]; simp)
      rw [hA] at HH
      clear h0 hA HS
      go_enter Tryd.func56, Tryd.ntmps56
      go_wp2_with fail
      refine HC.out.mono ?_
      rintro r w1 ⟨rfl, hi⟩
      obtain ⟨c0, c1, f0, f1, hz⟩ := new2 hb hi.2
      have HI1 := Lib.hid (hi.alloc0.set2 (Nat.le_refl _) hb (.int .u8 o) (.int .i64 0))
      clear hi HC
      simp only
      go_wp2_with (go_at_call 22; refine (HH.out _).mono ?_; rintro e w' ⟨rfl, rfl⟩)
      exact bodyPost_ret (v := .agg #[.int .u8 o, .int .i64 0]) (by simp [results, Tryd.results56, go_sem, c0, c1]) rfl ⟨by rw [HS2.out], by rw [HS2.out]; exact HI1.out⟩
    · have HS2 := Lib.hid (show insS st = ((numS (l1, e1)).1, (o, unzig (numS (l1, e1)).2)) by rw [HS.out, hA]; simp)
      rw [hA] at HH
      clear h0 hA HS
      go_enter Tryd.func56, Tryd.ntmps56
      go_wp2_with fail
      refine HC.out.mono ?_
      rintro r w1 ⟨rfl, hi⟩
      have HI1 := Lib.hid hi
      have HF := Lib.hid (inInt_any b l1 e1 _ hi.1)
      clear hi HC
      simp only
      go_wp2_with (first | (go_at_call 22; refine (HH.out _).mono ?_; rintro e w' ⟨rfl, rfl⟩) | fail)
      refine HF.out.mono ?_
      rintro r w2 ⟨rfl, hi⟩
      obtain ⟨c0, c1, f0, f1, hz⟩ := new2 hb (HI1.out.2.trans hi.2)
      have HI2 := Lib.hid ((HI1.out.trans hi).alloc0.set2 (Nat.le_refl _) hb (.int .u8 o) (.int .i64 (unzig (numS (l1, e1)).2)))
      clear hi HF HI1
      generalize numS (l1, e1) = t at HS2 HI2
      obtain ⟨⟨l2, e2⟩, n⟩ := t
      simp only at HS2 HI2
      go_wp2
      exact bodyPost_ret (v := .agg #[.int .u8 o, .int .i64 (unzig n)]) (by simp [results, Tryd.results56, go_sem, c0, c1]) rfl ⟨by rw [HS2.out], by rw [HS2.out]; exact HI2.out⟩
end Go.Proofs.YtmonbjlkkhpinaaDoor
