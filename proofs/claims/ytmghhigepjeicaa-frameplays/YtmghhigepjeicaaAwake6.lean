/-
  The calls at the head of layer 6's laws.
-/
import Derived.Test.YtmghhigepjeicaaFrameMake
import Derived.Test.YtmghhigepjeicaaHeapText
namespace Go.Proofs.Ytmghhigepjeicaa
open Go.RowKit
set_option linter.unusedVariables false

theorem awake6_start (w W : World) (hW : W = ((w.alloc (.cells Try.zeroCells94 94)).alloc (.cells (zeros.map (Value.int .i64)).toArray 59)).alloc (.cells #[.int .i64 1, .int .i64 2, .int .i64 3] 2)) :
    StackAt W w.heap.size [] ∧ HeapAt W (w.heap.size + 1) zeros ∧ IntRow .i64 W (some ⟨w.heap.size + 2, 0, none⟩) [1, 2, 3] ∧ Below w.heap.size w W ∧ w.heap.size + 2 < W.heap.size := by
  subst hW
  have h1 := stack_new w Try.zeroCells94 zero_stack
  have z1 : (w.alloc (.cells Try.zeroCells94 94)).heap.size = w.heap.size + 1 := by simp
  have b1 : Below w.heap.size w (w.alloc (.cells Try.zeroCells94 94)) := (Below.refl _ _).alloc (Nat.le_refl _) _
  generalize w.alloc (.cells Try.zeroCells94 94) = w1 at *
  have h2 := heap_new w1 59 _ rfl
  have z2 : (w1.alloc (.cells (zeros.map (Value.int .i64)).toArray 59)).heap.size = w.heap.size + 2 := by simp; omega
  have b2 : Below w1.heap.size w1 (w1.alloc (.cells (zeros.map (Value.int .i64)).toArray 59)) := (Below.refl _ _).alloc (Nat.le_refl _) _
  rw [z1] at h2
  have h1' := h1.below b2
  have b2' := b1.trans (b2.mono (by omega))
  generalize w1.alloc (.cells (zeros.map (Value.int .i64)).toArray 59) = w2 at *
  rw [← z2]
  have b3 : Below w2.heap.size w2 (w2.alloc (.cells #[.int .i64 1, .int .i64 2, .int .i64 3] 2)) := (Below.refl _ _).alloc (Nat.le_refl _) _
  exact ⟨h1'.below b3, h2.below b3, fresh_ints .i64 w2 [1, 2, 3] _ _ rfl, b2'.trans (b3.mono (by omega)), by simp⟩
theorem take_two (b : Nat) (w : World) (h : StackAt w b [1, 2, 3]) : Calls Try.prog 43 #[.pointer (some ⟨b, 0, none⟩), .int .i64 2] w (TakePost w b [1] [2, 3]) := take_some b [1] [2, 3] w h
theorem hbs3 : (bs [3, 0, 0, 1]).toList = [3, 0, 0, 1] := by simp [bs]
theorem heapB_awake : heapB (zeros.set 2 (-1)) = [3, 0, 0, 1] := by decide +kernel
set_option maxRecDepth 100000 in
set_option maxHeartbeats 2000000 in
theorem awake6_any (w : World) : Calls Try.prog 23 #[] w fun e w' => e = .returned (.bool true) ∧ Below w.heap.size w w' := by
  go_enter Try.func23, Try.ntmps23
  go_wp2_with fail
  rw [← zeros_cells]
  generalize hW : ((w.alloc (.cells Try.zeroCells94 94)).alloc (.cells (zeros.map (Value.int .i64)).toArray 59)).alloc (.cells #[.int .i64 1, .int .i64 2, .int .i64 3] 2) = W
  have hM := Lib.hid (awake6_start w W hW.symm)
  clear hW
  refine (push_some w.heap.size [] [1, 2, 3] (some ⟨w.heap.size + 2, 0, none⟩) 3 W hM.out.1 (by decide) (by decide) hM.out.2.2.1 (by intro x hx; simp at hx; unfold bound64; omega)).mono ?_
  rintro r w1 ⟨rfl, hs1⟩
  have H1 := Lib.hid (show StackAt w1 w.heap.size [1, 2, 3] ∧ HeapAt w1 (w.heap.size + 1) zeros ∧ Below w.heap.size w w1 from ⟨hs1.1, hM.out.2.1.touch hs1.2 (by omega), hM.out.2.2.2.1.trans (hs1.2.below hM.out.2.2.2.1.size (by rintro j hj rfl; omega))⟩)
  clear hs1 hM
  go_wp2_with fail
  refine (put_yes (w.heap.size + 1) 2 (-1) zeros w1 (by decide) (by decide) H1.out.2.1).mono ?_
  rintro r w2 ⟨rfl, hh⟩
  have H2 := Lib.hid (show StackAt w2 w.heap.size [1, 2, 3] ∧ HeapAt w2 (w.heap.size + 1) (zeros.set 2 (-1)) ∧ Below w.heap.size w w2 from ⟨H1.out.1.touch hh.2 (by omega), hh.1, H1.out.2.2.trans (hh.2.below H1.out.2.2.size (by rintro j hj rfl; omega))⟩)
  clear hh H1
  go_wp2_with fail
  refine (take_two w.heap.size w2 H2.out.1).mono ?_
  rintro r w3 ⟨a, c, rfl, hr, ha, hs⟩
  obtain ⟨rb, off, rfl, hcell⟩ := hr (by decide)
  have hc0 : w3.cell? ⟨rb, off, none⟩ = some (.int .i64 2) := hcell 0 (by decide)
  have hc1 : w3.cell? ⟨rb, off + 1, none⟩ = some (.int .i64 3) := hcell 1 (by decide)
  have H3 := Lib.hid (show StackAt w3 w.heap.size [1] ∧ HeapAt w3 (w.heap.size + 1) (zeros.set 2 (-1)) ∧ Below w.heap.size w w3 from ⟨hs.1, H2.out.2.1.touch hs.2 (by omega), H2.out.2.2.trans (hs.2.below H2.out.2.2.size (by rintro j hj rfl; omega))⟩)
  clear hs hr ha hcell H2
  go_wp2_with fail
  refine (len_stack w.heap.size [1] w3 H3.out.1).mono ?_
  rintro r w4 ⟨rfl, rfl⟩
  go_wp2_with fail
  refine (heapText_any (w.heap.size + 1) _ w3 H3.out.2.1).mono ?_
  rintro r w4 ⟨rfl, hb4⟩
  have H4 := Lib.hid (H3.out.2.2.trans (hb4.mono H3.out.2.2.size))
  rw [heapB_awake]
  clear hb4 hc0 hc1
  have hbs : ((bs [3, 0, 0, 1]).toList == [3, 0, 0, 1]) = true := by rw [hbs3]; rfl
  go_wp2_with fail
  refine (make_fr 1 1 [5] (some ⟨w4.heap.size, 0, none⟩) 1 _ (by simp [maxLen]) (fresh_ints .i64 w4 [5] _ _ rfl)).mono ?_
  rintro r w5 ⟨b5, s5, c5, rfl, hf5, -, -, -, hb5⟩
  have H5 := Lib.hid ((H4.out.alloc H4.out.size _).trans (hb5.mono (by have := H4.out.size; simp; omega)))
  clear hf5 hb5
  go_wp2_with fail
  refine (make_fr 1 1 [5] (some ⟨w5.heap.size, 0, none⟩) 1 _ (by simp [maxLen]) (fresh_ints .i64 w5 [5] _ _ rfl)).mono ?_
  rintro r w6 ⟨b6, s6, c6, rfl, hf6, -, -, -, hb6⟩
  have H6 := Lib.hid ((H5.out.alloc H5.out.size _).trans (hb6.mono (by have := H5.out.size; simp; omega)))
  have hf0 := hf6.2.1
  clear hf6 hb6
  go_wp2
  go_ret
  exact ⟨rfl, H6.out⟩
end Go.Proofs.Ytmghhigepjeicaa
