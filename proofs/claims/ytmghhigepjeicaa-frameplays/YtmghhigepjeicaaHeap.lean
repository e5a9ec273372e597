/-
  A heap: its cells, and what each of its calls comes to.
-/
import Derived.Test.YtmghhigepjeicaaHeapMath
import Derived.Test.YtmghhigepjeicaaOutIn
import Derived.Test.YtmghhigepjeicaaWireTake
import Derived.BigQuiet
import Derived.Deep.QuietTactic
import Derived.Deep.RegionHeld3
import Derived.Outline
namespace Go.Proofs.Ytmghhigepjeicaa
open Go.RowKit
set_option linter.unusedVariables false

/-- A heap lies at block b: these are its cells. -/
def HeapAt (w : World) (b : Nat) (l : List Int) : Prop :=
  l.length = 64 ∧ (∀ i (h : i < l.length), w.cell? ⟨b, i, none⟩ = some (.int .i64 l[i])) ∧ (∀ i, i < 64 → w.frozen? ⟨b, i, none⟩ = false) ∧ ∀ x ∈ l, -9223372036854775808 ≤ x ∧ x ≤ 9223372036854775807
theorem HeapAt.lt {w : World} {b : Nat} {l : List Int} (h : HeapAt w b l) : b < w.heap.size := block_lt_of_cell (h.2.1 0 (by have := h.1; omega))
theorem HeapAt.cell {w : World} {b : Nat} {l : List Int} (h : HeapAt w b l) (i : Nat) (hi : i < 64) : w.cell? ⟨b, i, none⟩ = some (.int .i64 (l.getD i 0)) := by
  have hl := h.1
  rw [h.2.1 i (by omega)]
  simp [List.getD, List.getElem?_eq_getElem (show i < l.length by omega)]
theorem HeapAt.bound {w : World} {b : Nat} {l : List Int} (h : HeapAt w b l) (i : Nat) : -9223372036854775808 ≤ l.getD i 0 ∧ l.getD i 0 ≤ 9223372036854775807 := by
  by_cases hi : i < l.length
  · have := h.2.2.2 l[i] (List.getElem_mem hi)
    simpa [List.getD, List.getElem?_eq_getElem hi] using this
  · simp [List.getD, List.getElem?_eq_none (show l.length ≤ i by omega)]
theorem HeapAt.touch {S : Nat → Prop} {w w' : World} {b : Nat} {l : List Int} (h : HeapAt w b l) (ht : Touch S w w') (hs : ¬ S b) : HeapAt w' b l :=
  ⟨h.1, fun i hi => (ht.cell (p := ⟨b, i, none⟩) h.lt hs).trans (h.2.1 i hi), fun i hi => (ht.frozen (p := ⟨b, i, none⟩) h.lt hs).trans (h.2.2.1 i hi), h.2.2.2⟩
theorem HeapAt.below {w w' : World} {b : Nat} {l : List Int} (h : HeapAt w b l) (ht : Below w.heap.size w w') : HeapAt w' b l :=
  h.touch (touch_of_below (S := fun _ => False) ht) id
def HeapTo (w : World) (b : Nat) (l : List Int) (w' : World) : Prop := HeapAt w' b l ∧ Touch (fun k => k = b) w w'
theorem heapTo_set {w : World} {b : Nat} {l : List Int} (h : HeapAt w b l) (n : Nat) (hn : n < 64) (x : Int) (hx : -9223372036854775808 ≤ x ∧ x ≤ 9223372036854775807) : HeapTo w b (l.set n x) (w.setCell ⟨b, n, none⟩ (.int .i64 x)) := by
  obtain ⟨h0, h1, h2, h3⟩ := h
  refine ⟨⟨by simpa using h0, fun i hi => ?_, fun i hi => by simpa using h2 i hi, fun y hy => ?_⟩, (Touch.refl (fun k => k = b) w).setCell (p := ⟨b, n, none⟩) (fun _ => rfl) _⟩
  · have hi' : i < l.length := by simpa using hi
    by_cases e : n = i
    · subst e
      rw [World.cell?_setCell_same _ _ _ (h1 n hi')]
      simp
    · rw [World.cell?_setCell_other _ _ _ _ (by simp), h1 i hi', List.getElem_set_ne e]
  · rcases List.mem_or_eq_of_mem_set hy with h | h
    · exact h3 y h
    · rw [h]; exact hx
theorem HeapTo.trans {w w1 w2 : World} {b : Nat} {l m : List Int} (h1 : HeapTo w b l w1) (h2 : HeapTo w1 b m w2) : HeapTo w b m w2 := ⟨h2.1, h1.2.trans h2.2⟩
def zeros : List Int := List.replicate 64 0
theorem zeros_cells : (zeros.map (Value.int .i64)).toArray = #[.int .i64 0, .int .i64 0, .int .i64 0, .int .i64 0, .int .i64 0, .int .i64 0, .int .i64 0, .int .i64 0, .int .i64 0, .int .i64 0, .int .i64 0, .int .i64 0, .int .i64 0, .int .i64 0, .int .i64 0, .int .i64 0, .int .i64 0, .int .i64 0, .int .i64 0, .int .i64 0, .int .i64 0, .int .i64 0, .int .i64 0, .int .i64 0, .int .i64 0, .int .i64 0, .int .i64 0, .int .i64 0, .int .i64 0, .int .i64 0, .int .i64 0, .int .i64 0, .int .i64 0, .int .i64 0, .int .i64 0, .int .i64 0, .int .i64 0, .int .i64 0, .int .i64 0, .int .i64 0, .int .i64 0, .int .i64 0, .int .i64 0, .int .i64 0, .int .i64 0, .int .i64 0, .int .i64 0, .int .i64 0, .int .i64 0, .int .i64 0, .int .i64 0, .int .i64 0, .int .i64 0, .int .i64 0, .int .i64 0, .int .i64 0, .int .i64 0, .int .i64 0, .int .i64 0, .int .i64 0, .int .i64 0, .int .i64 0, .int .i64 0, .int .i64 0] := rfl
theorem heap_new (w : World) (t : TypeId) (cells : Array Value) (hc : cells = (zeros.map (Value.int .i64)).toArray) : HeapAt (w.alloc (.cells cells t)) w.heap.size zeros := by
  subst hc
  refine ⟨by simp [zeros], fun i hi => ?_, fun i hi => frozen_new _ _ _ _, fun x hx => ?_⟩
  · simp [hi]
  · rw [List.eq_of_mem_replicate hx]; decide

theorem isCell_yes (n : Nat) (w : World) (hn : n < 64) : Calls Try.prog 54 #[.int .i64 n] w fun r w' => r = .returned (.bool true) ∧ w = w' := by
  have hd : decide ((n : Int) < 64) = true := by simp; omega
  go_enter Try.func54, Try.ntmps54
  go_wp2
  go_ret
  exact ⟨rfl, rfl⟩
theorem isCell_no (n : Int) (w : World) (hn : n < 0 ∨ 64 ≤ n) : Calls Try.prog 54 #[.int .i64 n] w fun r w' => r = .returned (.bool false) ∧ w = w' := by
  rcases hn with h | h
  · go_enter Try.func54, Try.ntmps54
    go_wp2
    go_ret
    exact ⟨rfl, rfl⟩
  · have hd : decide (n < 64) = false := by simp; omega
    go_enter Try.func54, Try.ntmps54
    go_wp2
    go_ret
    exact ⟨rfl, rfl⟩
theorem get_yes (b n : Nat) (l : List Int) (w : World) (hn : n < 64) (h : HeapAt w b l) :
    Calls Try.prog 32 #[.pointer (some ⟨b, 0, none⟩), .int .i64 n] w fun r w' => r = .returned (.tuple #[.int .i64 (l.getD n 0), .bool true]) ∧ w = w' := by
  have hc := h.cell n hn
  generalize l.getD n 0 = x at hc ⊢
  clear h
  go_enter Try.func32, Try.ntmps32
  go_wp2_with fail
  refine (isCell_yes n w hn).mono ?_
  rintro r w1 ⟨rfl, rfl⟩
  go_wp2
  go_ret2
  exact ⟨rfl, rfl⟩
theorem get_no (b : Nat) (n : Int) (w : World) (hn : n < 0 ∨ 64 ≤ n) :
    Calls Try.prog 32 #[.pointer (some ⟨b, 0, none⟩), .int .i64 n] w fun r w' => r = .returned (.tuple #[.int .i64 0, .bool false]) ∧ w = w' := by
  go_enter Try.func32, Try.ntmps32
  go_wp2_with fail
  refine (isCell_no n w hn).mono ?_
  rintro r w1 ⟨rfl, rfl⟩
  go_wp2
  go_ret2
  exact ⟨rfl, rfl⟩
theorem put_yes (b n : Nat) (x : Int) (l : List Int) (w : World) (hn : n < 64) (hx : -9223372036854775808 ≤ x ∧ x ≤ 9223372036854775807) (h : HeapAt w b l) :
    Calls Try.prog 31 #[.pointer (some ⟨b, 0, none⟩), .int .i64 n, .int .i64 x] w fun r w' => r = .returned (.bool true) ∧ HeapTo w b (l.set n x) w' := by
  have HT := Lib.hid (heapTo_set h n hn x hx)
  have hc := h.cell n hn
  have hf := h.2.2.1 n hn
  clear h
  go_enter Try.func31, Try.ntmps31
  go_wp2_with fail
  refine (isCell_yes n w hn).mono ?_
  rintro r w1 ⟨rfl, rfl⟩
  go_wp2
  go_ret
  exact ⟨rfl, HT.out⟩
theorem put_no (b : Nat) (n x : Int) (w : World) (hn : n < 0 ∨ 64 ≤ n) :
    Calls Try.prog 31 #[.pointer (some ⟨b, 0, none⟩), .int .i64 n, .int .i64 x] w fun r w' => r = .returned (.bool false) ∧ w = w' := by
  go_enter Try.func31, Try.ntmps31
  go_wp2_with fail
  refine (isCell_no n w hn).mono ?_
  rintro r w1 ⟨rfl, rfl⟩
  go_wp2
  go_ret
  exact ⟨rfl, rfl⟩
theorem used_any (b : Nat) (l : List Int) (w : World) (h : HeapAt w b l) :
    Calls Try.prog 55 #[.pointer (some ⟨b, 0, none⟩)] w fun r w' => r = .returned (.int .i64 (usedN l : Nat)) ∧ w = w' := by
  have HH := Lib.hid h
  have HL := Lib.hid h.1
  clear h
  go_enter Try.func55, Try.ntmps55
  go_wp2
  go_loop [3] (fun i => ∃ k : Nat, k ≤ 64 ∧ i = .int .i64 k ∧ Hid (usedN l = usedK l k)) (fun i => (intOf i).toNat)
  case atStart => exact ⟨64, by omega, rfl, Lib.hid (by unfold usedN; rw [HL.out])⟩
  case round =>
    obtain ⟨k, hk, rfl, HU⟩ := hrel
    cases k with
    | zero =>
      go_wp2
      go_ret
      exact ⟨ret_int (by rw [HU.out]; rfl), rfl⟩
    | succ j =>
      have hc := HH.out.cell j (by omega)
      have hc' : w.cell? ⟨b, 0 + j, none⟩ = some (.int .i64 (l.getD j 0)) := by rw [Nat.zero_add]; exact hc
      by_cases hz : l.getD j 0 = 0
      · have HS := Lib.hid (usedK_zero l j hz)
        rw [hz] at hc hc'
        clear hz
        go_wp2
        go_round
        case rel => exact ⟨j, by omega, by go_num, Lib.hid (HU.out.trans HS.out)⟩
        case measure => simp [intOf]
      · have HS := Lib.hid (usedK_some l j hz)
        generalize l.getD j 0 = x at hc hc' hz
        have hzb : (x == 0) = false := by simpa using hz
        clear hz
        go_wp2
        go_ret
        exact ⟨ret_int (by rw [HU.out, HS.out]; rfl), rfl⟩
end Go.Proofs.Ytmghhigepjeicaa
