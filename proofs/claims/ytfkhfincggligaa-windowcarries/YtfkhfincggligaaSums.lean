/-
  What each call of layer 1, and of the document's own answers for it, comes to: one contract a function.
-/
import Derived.Test.YtfkhfincggligaaRows
import Derived.Test.YtfkhfincggligaaMath
import Derived.WalkKit
import Derived.Outline
import Derived.Lib.Hide
namespace Go.Proofs.Ytfkhfincggligaa
open Go.RowKit
set_option linter.unusedVariables false

theorem ret_int {k : IntKind} {a b : Int} (h : a = b) : Ending.returned (.int k a) = .returned (.int k b) := by rw [h]
theorem take_snoc (s : ByteArray) (k : Nat) (h : k < s.size) : s.data.toList.take (k + 1) = s.data.toList.take k ++ [s[k]] := by
  rw [List.take_succ_eq_append_getElem (by simpa using h)]; rfl
theorem take_all (s : ByteArray) (k : Nat) (h : ¬ k < s.size) : s.data.toList.take k = s.data.toList :=
  List.take_of_length_le (by simp; omega)

def bls (ss : List ByteArray) : List (List UInt8) := ss.map fun s => s.data.toList
theorem bls_snoc (ss : List ByteArray) (k : Nat) (h : k < ss.length) : bls (ss.take (k + 1)) = bls (ss.take k) ++ [ss[k].data.toList] := by
  unfold bls; rw [List.take_succ_eq_append_getElem h, List.map_append]; rfl
theorem bls_all (ss : List ByteArray) (k : Nat) (h : ¬ k < ss.length) : bls (ss.take k) = bls ss := by
  rw [List.take_of_length_le (by omega)]
/-- WHAT A CALL IS TOLD OF A LIST OF TEXTS: its texts lie one behind the other from a on (of none nothing is asked). -/
def StrRow (w : World) (a : Option Addr) (ss : List ByteArray) : Prop :=
  ss.length ≤ maxLen ∧ (∀ (i : Nat) (h : i < ss.length), ss[i].size ≤ maxLen) ∧
    (0 < ss.length → ∃ b off, a = some ⟨b, off, none⟩ ∧ ∀ (i : Nat) (h : i < ss.length), w.cell? ⟨b, off + i, none⟩ = some (.string ss[i]))

theorem StrRow.below {w w' : World} {a : Option Addr} {ss : List ByteArray} {B : Nat} (h : StrRow w a ss) (hb : Below B w w') (hB : ∀ x, a = some x → x.block < B) : StrRow w' a ss := by
  refine ⟨h.1, h.2.1, fun h0 => ?_⟩
  obtain ⟨b, off, e, hc⟩ := h.2.2 h0
  exact ⟨b, off, e, fun i hi => by rw [hb.cell (p := ⟨b, off + i, none⟩) (by have := hB _ e; exact this)]; exact hc i hi⟩

theorem StrRow.keep {w w' : World} {a : Option Addr} {ss : List ByteArray} (h : StrRow w a ss) (hb : Below w.heap.size w w') : StrRow w' a ss := by
  refine ⟨h.1, h.2.1, fun h0 => ?_⟩
  obtain ⟨b, off, e, hc⟩ := h.2.2 h0
  exact ⟨b, off, e, fun i hi => by rw [hb.cell (p := ⟨b, off + i, none⟩) (block_lt_of_cell (hc i hi))]; exact hc i hi⟩

theorem row_one (w : World) (b : Nat) (s : ByteArray) (hs : s.size ≤ maxLen) (hc : w.cell? ⟨b, 0, none⟩ = some (.string s)) : StrRow w (some ⟨b, 0, none⟩) [s] := by
  refine ⟨by simp [maxLen], fun i h => ?_, fun _ => ⟨b, 0, rfl, fun i h => ?_⟩⟩
  · obtain rfl : i = 0 := by simpa using h
    exact hs
  · obtain rfl : i = 0 := by simpa using h
    exact hc
/-- At most n bytes. -/
def cutB (s : ByteArray) (n : Nat) : ByteArray := if n < s.size then s.extract 0 n else s
theorem cut_any (s : ByteArray) (n : Nat) (w : World) (hs : s.size ≤ maxLen) (hn : n ≤ 100000) :
    Calls Try.prog 13 #[.string s, .int .i64 n] w fun e w' => e = .returned (.string (cutB s n)) ∧ w = w' := by
  unfold maxLen at hs
  by_cases h : n < s.size
  · go_enter Try.func13, Try.ntmps13
    go_wp2
    go_ret
    exact ⟨by unfold cutB; rw [if_pos h]; rfl, rfl⟩
  · go_enter Try.func13, Try.ntmps13
    go_wp2
    go_ret
    exact ⟨by unfold cutB; rw [if_neg h]; rfl, rfl⟩
theorem cutB_le (s : ByteArray) (n : Nat) : (cutB s n).size ≤ n := by
  unfold cutB; split
  · simp; omega
  · omega
theorem cutB_le' (s : ByteArray) (n : Nat) (h : n ≤ 100000) : (cutB s n).size ≤ maxLen := by
  have := cutB_le s n; unfold maxLen; omega
end Go.Proofs.Ytfkhfincggligaa
