/-
  What each call of a dice comes to, and the document's own answers for it.
-/
import Derived.Test.YtmghhigepjeicaaDiceMath
import Derived.Test.YtmghhigepjeicaaSums
import Derived.Test.YtmghhigepjeicaaTouch
import Derived.Below
import Derived.BigQuiet
import Derived.Deep.QuietTactic
import Derived.Outline
namespace Go.Proofs.Ytmghhigepjeicaa
open Go.RowKit
set_option linter.unusedVariables false

theorem below_dN5 {B : Nat} {a w : World} (h : Below B a w) (n : Nat) : Below B a (w.drewN n) := ⟨h.os, h.tape, h.output, h.size, h.block⟩
theorem ret_two {k j : IntKind} {a b c d : Int} (h : a = b) (g : c = d) : Ending.returned (.tuple #[.int k a, .int j c]) = .returned (.tuple #[.int k b, .int j d]) := by rw [h, g]
theorem mix_any (x : Nat) (w : World) (hx : x < 18446744073709551616) :
    Calls Try.prog 45 #[.int .u64 x] w fun e w' => e = .returned (.int .u64 (mixN x : Nat)) ∧ w = w' := by
  go_enter Try.func45, Try.ntmps45
  go_wp2
  go_ret
  exact ⟨ret_int (mixN_walk x hx), rfl⟩
theorem mul64_any (a b : Nat) (w : World) (ha : a < 18446744073709551616) (hb : b < 18446744073709551616) :
    Calls Try.prog 46 #[.int .u64 a, .int .u64 b] w fun e w' => e = .returned (.tuple #[.int .u64 (highN a b : Nat), .int .u64 (a * b % 18446744073709551616 : Nat)]) ∧ w = w' := by
  go_enter Try.func46, Try.ntmps46
  go_wp2
  go_ret2
  exact ⟨ret_two (high_walk a b ha hb) (by rw [← Int.natCast_mul, w64]), rfl⟩
theorem refHigh_any (a b : Nat) (w : World) (ha : a < 18446744073709551616) (hb : b < 18446744073709551616) :
    Calls Try.prog 47 #[.int .u64 a, .int .u64 b] w fun e w' => e = .returned (.int .u64 (highN a b : Nat)) ∧ Below w.heap.size w w' := by
  go_enter Try.func47, Try.ntmps47
  go_wp2
  go_quiet ((fail))
  go_wp2
  go_quiet ((fail))
  go_wp2
  go_quiet ((fail))
  go_wp2
  go_quiet ((fail))
  go_wp2
  go_quiet ((fail))
  go_wp2
  go_ret
  exact ⟨ret_int (highD_walk a b ha hb), below_dN5 (below_dN5 (below_dN5 (below_dN5 (below_dN5 (Below.refl _ _) _) _) _) _) _⟩
theorem refNext_any (s : Nat) (w : World) (hs : s < 18446744073709551616) :
    Calls Try.prog 15 #[.int .u64 s] w fun e w' => e = .returned (.tuple #[.int .u64 (goOn s : Nat), .int .u64 (mixN (goOn s) : Nat)]) ∧ w = w' := by
  go_enter Try.func15, Try.ntmps15
  go_wp2
  go_ret2
  exact ⟨by rw [goOn_walk]; exact ret_two rfl (mixD_walk _ (goOn_lt s)), rfl⟩
/-- A dice lies at block b: this is its state. -/
def DiceAt (w : World) (b : Nat) (s : Nat) : Prop := w.cell? ⟨b, 0, none⟩ = some (.int .u64 s) ∧ w.frozen? ⟨b, 0, none⟩ = false ∧ s < 18446744073709551616
theorem DiceAt.lt {w : World} {b s : Nat} (h : DiceAt w b s) : b < w.heap.size := block_lt_of_cell h.1
theorem DiceAt.touch {S : Nat → Prop} {w w' : World} {b s : Nat} (h : DiceAt w b s) (ht : Touch S w w') (hs : ¬ S b) : DiceAt w' b s :=
  ⟨(ht.cell (p := ⟨b, 0, none⟩) h.lt hs).trans h.1, (ht.frozen (p := ⟨b, 0, none⟩) h.lt hs).trans h.2.1, h.2.2⟩
theorem DiceAt.below {w w' : World} {b s : Nat} (h : DiceAt w b s) (ht : Below w.heap.size w w') : DiceAt w' b s :=
  h.touch (touch_of_below (S := fun _ => False) ht) id
/-- What a call of a dice leaves: this state, and nothing else turned. -/
def DiceTo (w : World) (b s : Nat) (w' : World) : Prop := DiceAt w' b s ∧ Touch (fun k => k = b) w w'
theorem diceTo_set {w : World} {b s : Nat} (h : DiceAt w b s) (t : Nat) (ht : t < 18446744073709551616) : DiceTo w b t (w.setCell ⟨b, 0, none⟩ (.int .u64 (t : Nat))) :=
  ⟨⟨World.cell?_setCell_same _ _ _ h.1, by simpa using h.2.1, ht⟩, (Touch.refl (fun k => k = b) w).setCell (p := ⟨b, 0, none⟩) (fun _ => rfl) _⟩
theorem DiceTo.trans {w w1 w2 : World} {b s t : Nat} (h1 : DiceTo w b s w1) (h2 : DiceTo w1 b t w2) : DiceTo w b t w2 := ⟨h2.1, h1.2.trans h2.2⟩
theorem DiceAt.to {w : World} {b s : Nat} (h : DiceAt w b s) : DiceTo w b s w := ⟨h, Touch.refl _ _⟩
theorem new_any (s : Nat) (w : World) (hs : s < 18446744073709551616) :
    Calls Try.prog 13 #[.int .u64 s] w fun r w' => r = .returned (.pointer (some ⟨w.heap.size, 0, none⟩)) ∧ DiceAt w' w.heap.size s ∧ Below w.heap.size w w' := by
  go_enter Try.func13, Try.ntmps13
  go_wp2
  go_ret
  exact ⟨rfl, ⟨by simp, frozen_new _ _ _ _, hs⟩, (Below.refl _ _).alloc (Nat.le_refl _) _⟩
theorem state_any (b s : Nat) (w : World) (h : DiceAt w b s) :
    Calls Try.prog 18 #[.pointer (some ⟨b, 0, none⟩)] w fun r w' => r = .returned (.int .u64 s) ∧ w = w' := by
  obtain ⟨h0, h1, h2⟩ := h
  go_enter Try.func18, Try.ntmps18
  go_wp2
  go_ret
  exact ⟨rfl, rfl⟩
theorem next_any (b s : Nat) (w : World) (h : DiceAt w b s) :
    Calls Try.prog 14 #[.pointer (some ⟨b, 0, none⟩)] w fun r w' => r = .returned (.int .u64 (mixN (goOn s) : Nat)) ∧ DiceTo w b (goOn s) w' := by
  have HD := Lib.hid (diceTo_set h (goOn s) (goOn_lt s))
  have HG := Lib.hid (goOn_walk s)
  have HL := Lib.hid (goOn_lt s)
  obtain ⟨h0, h1, h2⟩ := h
  generalize goOn s = t at HD HG HL ⊢
  go_enter Try.func14, Try.ntmps14
  go_wp2_with fail
  rw [HG.out]
  refine (mix_any _ _ HL.out).mono ?_
  rintro r w' ⟨rfl, rfl⟩
  go_wp2
  go_ret
  exact ⟨rfl, HD.out⟩
end Go.Proofs.Ytmghhigepjeicaa
