/-
  A call's frame: its function, where it is, its locals, its values.
-/
import Derived.Test.YtmghhigepjeicaaInts
namespace Go.Proofs.Ytmghhigepjeicaa
open Go.RowKit
set_option linter.unusedVariables false

/-- A frame lies at block b: its stack at block s, its locals at block c. -/
def FrameAt (w : World) (b s c : Nat) (fn : Int) (l v : List Int) : Prop :=
  StackAt w s l ∧ w.cell? ⟨b, 0, none⟩ = some (.pointer (some ⟨s, 0, none⟩)) ∧ w.cell? ⟨b, 1, none⟩ = some (.int .i64 fn) ∧ w.cell? ⟨b, 2, none⟩ = some (.int .i64 0) ∧
    w.cell? ⟨b, 3, none⟩ = some (.slice (some ⟨c, 0, none⟩) v.length v.length) ∧ w.rowIs c 2 v.length (fun i => .int .i64 (v.getD i 0)) ∧ v.length ≤ 16 ∧ b ≠ s ∧ b ≠ c ∧ s ≠ c
theorem FrameAt.lt {w : World} {b s c : Nat} {fn : Int} {l v : List Int} (h : FrameAt w b s c fn l v) : b < w.heap.size ∧ s < w.heap.size ∧ c < w.heap.size :=
  ⟨block_lt_of_cell h.2.1, h.1.lt, h.2.2.2.2.2.1.lt⟩
theorem FrameAt.touch {S : Nat → Prop} {w w' : World} {b s c : Nat} {fn : Int} {l v : List Int} (h : FrameAt w b s c fn l v) (ht : Touch S w w') (hb : ¬ S b) (hs : ¬ S s) (hc : ¬ S c) : FrameAt w' b s c fn l v := by
  obtain ⟨k1, k2, k3⟩ := h.lt
  obtain ⟨h1, h2, h3, h4, h5, h6, h7, h8⟩ := h
  exact ⟨h1.touch ht hs, (ht.cell (p := ⟨b, 0, none⟩) k1 hb).trans h2, (ht.cell (p := ⟨b, 1, none⟩) k1 hb).trans h3, (ht.cell (p := ⟨b, 2, none⟩) k1 hb).trans h4, (ht.cell (p := ⟨b, 3, none⟩) k1 hb).trans h5, h6.of_block (ht.block c k3 hc), h7, h8⟩
theorem FrameAt.below {w w' : World} {b s c : Nat} {fn : Int} {l v : List Int} (h : FrameAt w b s c fn l v) (ht : Below w.heap.size w w') : FrameAt w' b s c fn l v :=
  h.touch (touch_of_below (S := fun _ => False) ht) id id id
/-- The stack was called. -/
theorem FrameAt.stack {w w' : World} {b s c : Nat} {fn : Int} {l l' v : List Int} (h : FrameAt w b s c fn l v) (ht : StackTo w s l' w') : FrameAt w' b s c fn l' v := by
  obtain ⟨k1, k2, k3⟩ := h.lt
  obtain ⟨h1, h2, h3, h4, h5, h6, h7, h8, h9, h10⟩ := h
  exact ⟨ht.1, (ht.2.cell (p := ⟨b, 0, none⟩) k1 h8).trans h2, (ht.2.cell (p := ⟨b, 1, none⟩) k1 h8).trans h3, (ht.2.cell (p := ⟨b, 2, none⟩) k1 h8).trans h4, (ht.2.cell (p := ⟨b, 3, none⟩) k1 h8).trans h5, h6.of_block (ht.2.block c k3 (fun e => h10 e.symm)), h7, h8, h9, h10⟩
theorem frame_set {w : World} {b s c : Nat} {fn : Int} {l v : List Int} (h : FrameAt w b s c fn l v) (n : Nat) (hn : n < v.length) (x : Int) : FrameAt (w.setCell ⟨c, n, none⟩ (.int .i64 x)) b s c fn l (v.set n x) := by
  obtain ⟨k1, k2, k3⟩ := h.lt
  obtain ⟨h1, h2, h3, h4, h5, h6, h7, h8, h9, h10⟩ := h
  have ht : Touch (fun k => k = c) w (w.setCell ⟨c, n, none⟩ (.int .i64 x)) := (Touch.refl (fun k => k = c) w).setCell (p := ⟨c, n, none⟩) (fun _ => rfl) _
  refine ⟨h1.touch ht h10, (ht.cell (p := ⟨b, 0, none⟩) k1 h9).trans h2, (ht.cell (p := ⟨b, 1, none⟩) k1 h9).trans h3, (ht.cell (p := ⟨b, 2, none⟩) k1 h9).trans h4, ?_, ?_, by simpa using h7, h8, h9, h10⟩
  · rw [List.length_set]; exact (ht.cell (p := ⟨b, 3, none⟩) k1 h9).trans h5
  · rw [List.length_set]
    refine (h6.set n _).congr (fun i hi => ?_)
    by_cases e : i = n
    · subst e; simp [List.getD, hi]
    · rw [if_neg e]; simp only [List.getD, List.getElem?_set_ne (fun h => e h.symm)]
theorem hasLocal_yes (b s c : Nat) (fn : Int) (l v : List Int) (n : Nat) (w : World) (h : FrameAt w b s c fn l v) (hn : n < v.length) :
    Calls Try.prog 53 #[.pointer (some ⟨b, 0, none⟩), .int .i64 n] w fun r w' => r = .returned (.bool true) ∧ w = w' := by
  obtain ⟨h1, h2, h3, h4, h5, h6, h7, h8⟩ := h
  have hd : decide (n < v.length) = true := by simpa using hn
  clear h6
  generalize v.length = k at *
  go_enter Try.func53, Try.ntmps53
  go_wp2
  go_ret
  exact ⟨rfl, rfl⟩
theorem hasLocal_no (b s c : Nat) (fn : Int) (l v : List Int) (n : Int) (w : World) (h : FrameAt w b s c fn l v) (hn : n < 0 ∨ (v.length : Int) ≤ n) :
    Calls Try.prog 53 #[.pointer (some ⟨b, 0, none⟩), .int .i64 n] w fun r w' => r = .returned (.bool false) ∧ w = w' := by
  obtain ⟨h1, h2, h3, h4, h5, h6, h7, h8⟩ := h
  clear h6
  generalize v.length = k at *
  rcases hn with hn | hn
  · go_enter Try.func53, Try.ntmps53
    go_wp2
    go_ret
    exact ⟨rfl, rfl⟩
  · have hd : decide (n < (k : Int)) = false := by simp; omega
    go_enter Try.func53, Try.ntmps53
    go_wp2
    go_ret
    exact ⟨rfl, rfl⟩
theorem local_yes (b s c : Nat) (fn : Int) (l v : List Int) (n : Nat) (w : World) (h : FrameAt w b s c fn l v) (hn : n < v.length) :
    Calls Try.prog 29 #[.pointer (some ⟨b, 0, none⟩), .int .i64 n] w fun r w' => r = .returned (.int .i64 (v.getD n 0)) ∧ w = w' := by
  have HH := Lib.hid (hasLocal_yes b s c fn l v n w h hn)
  obtain ⟨h1, h2, h3, h4, h5, h6, h7, h8⟩ := h
  have hc : w.cell? ⟨c, n, none⟩ = some (.int .i64 (v.getD n 0)) := h6.cell hn
  have hc' : w.cell? ⟨c, 0 + n, none⟩ = some (.int .i64 (v.getD n 0)) := by rw [Nat.zero_add]; exact hc
  generalize v.getD n 0 = x at *
  clear h6
  generalize v.length = k at *
  go_enter Try.func29, Try.ntmps29
  go_wp2_with fail
  refine HH.out.mono ?_
  rintro r w1 ⟨rfl, rfl⟩
  go_wp2
  go_ret
  exact ⟨rfl, rfl⟩
theorem local_no (b s c : Nat) (fn : Int) (l v : List Int) (n : Int) (w : World) (h : FrameAt w b s c fn l v) (hn : n < 0 ∨ (v.length : Int) ≤ n) :
    Calls Try.prog 29 #[.pointer (some ⟨b, 0, none⟩), .int .i64 n] w fun r w' => r = .returned (.int .i64 0) ∧ w = w' := by
  have HH := Lib.hid (hasLocal_no b s c fn l v n w h hn)
  clear h hn
  go_enter Try.func29, Try.ntmps29
  go_wp2_with fail
  refine HH.out.mono ?_
  rintro r w1 ⟨rfl, rfl⟩
  go_wp2
  go_ret
  exact ⟨rfl, rfl⟩
def FrameTo (w : World) (b s c : Nat) (fn : Int) (l v : List Int) (w' : World) : Prop := FrameAt w' b s c fn l v ∧ Touch (fun k => k = s ∨ k = c) w w'
theorem setLocal_yes (b s c : Nat) (fn : Int) (l v : List Int) (n : Nat) (x : Int) (w : World) (h : FrameAt w b s c fn l v) (hn : n < v.length) :
    Calls Try.prog 27 #[.pointer (some ⟨b, 0, none⟩), .int .i64 n, .int .i64 x] w fun r w' => r = .returned (.bool true) ∧ FrameTo w b s c fn l (v.set n x) w' := by
  have HH := Lib.hid (hasLocal_yes b s c fn l v n w h hn)
  have HT := Lib.hid (show FrameTo w b s c fn l (v.set n x) (w.setCell ⟨c, n, none⟩ (.int .i64 x)) from ⟨frame_set h n hn x, (Touch.refl _ w).setCell (p := ⟨c, n, none⟩) (fun _ => .inr rfl) _⟩)
  obtain ⟨h1, h2, h3, h4, h5, h6, h7, h8⟩ := h
  have hc : w.cell? ⟨c, n, none⟩ = some (.int .i64 (v.getD n 0)) := h6.cell hn
  have hf := h6.frozen n
  generalize v.getD n 0 = y at *
  clear h6
  generalize v.length = k at *
  go_enter Try.func27, Try.ntmps27
  go_wp2_with fail
  refine HH.out.mono ?_
  rintro r w1 ⟨rfl, rfl⟩
  go_wp2
  go_ret
  exact ⟨rfl, HT.out⟩
theorem setLocal_no (b s c : Nat) (fn : Int) (l v : List Int) (n x : Int) (w : World) (h : FrameAt w b s c fn l v) (hn : n < 0 ∨ (v.length : Int) ≤ n) :
    Calls Try.prog 27 #[.pointer (some ⟨b, 0, none⟩), .int .i64 n, .int .i64 x] w fun r w' => r = .returned (.bool false) ∧ w = w' := by
  have HH := Lib.hid (hasLocal_no b s c fn l v n w h hn)
  clear h hn
  go_enter Try.func27, Try.ntmps27
  go_wp2_with fail
  refine HH.out.mono ?_
  rintro r w1 ⟨rfl, rfl⟩
  go_wp2
  go_ret
  exact ⟨rfl, rfl⟩
end Go.Proofs.Ytmghhigepjeicaa
