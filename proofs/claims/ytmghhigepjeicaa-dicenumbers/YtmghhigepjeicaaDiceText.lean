/-
  A dice's bytes.
-/
import Derived.Test.YtmghhigepjeicaaDiceMore
namespace Go.Proofs.Ytmghhigepjeicaa
open Go.RowKit
set_option linter.unusedVariables false

theorem diceText_any (b s : Nat) (w : World) (h : DiceAt w b s) :
    Calls Try.prog 19 #[.pointer (some ⟨b, 0, none⟩)] w fun r w' => r = .returned (.string (bs (numB s))) ∧ Below w.heap.size w w' := by
  have HO := Lib.hid (OutIn.start (Below.refl w.heap.size w) 90)
  have HZ := Lib.hid (show (w.alloc (.cells #[.slice none 0 0] 90)).heap.size = w.heap.size + 1 by simp)
  have hlt := h.lt
  obtain ⟨h0, h1, h2⟩ := h
  go_enter Try.func19, Try.ntmps19
  go_wp2_with fail
  rw [← HZ.out]
  generalize w.alloc (.cells #[.slice none 0 0] 90) = W at HO ⊢
  refine (outNum_in w w.heap.size [] [s] _ 1 1 W HO.out rfl rfl (by simp) (by simpa using h2)).mono ?_
  rintro r w1 ⟨rfl, ho⟩
  have HO1 := Lib.hid ho
  clear ho
  go_wp2_with fail
  refine (outText_in w _ _ w1 HO1.out).mono ?_
  rintro r w2 ⟨rfl, rfl⟩
  go_wp2
  go_ret
  exact ⟨by simp [numsB], HO1.out.bel⟩
end Go.Proofs.Ytmghhigepjeicaa
