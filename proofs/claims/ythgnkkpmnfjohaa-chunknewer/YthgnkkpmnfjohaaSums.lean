/-
  What each call of layer 1, and of the document's own answers for it, comes to: one contract a function.
-/
import Derived.Test.YthgnkkpmnfjohaaRows
import Derived.Test.YthgnkkpmnfjohaaMath
import Derived.WalkKit
import Derived.Outline
import Derived.Lib.Hide
namespace Go.Proofs.Ythgnkkpmnfjohaa
open Go.RowKit
set_option linter.unusedVariables false

theorem ret_int {k : IntKind} {a b : Int} (h : a = b) : Ending.returned (.int k a) = .returned (.int k b) := by rw [h]
theorem take_snoc (s : ByteArray) (k : Nat) (h : k < s.size) : s.data.toList.take (k + 1) = s.data.toList.take k ++ [s[k]] := by
  rw [List.take_succ_eq_append_getElem (by simpa using h)]; rfl
theorem take_all (s : ByteArray) (k : Nat) (h : ¬ k < s.size) : s.data.toList.take k = s.data.toList :=
  List.take_of_length_le (by simp; omega)

theorem refOf_any (s : ByteArray) (w : World) (hs : s.size ≤ maxLen) :
    Calls Try.prog 29 #[.string s] w fun e w' => e = .returned (.int .u64 (fnvS 14695981039346656037 s.data.toList : Nat)) ∧ w = w' := by
  unfold maxLen at hs
  go_enter Try.func29, Try.ntmps29
  go_wp2
  go_loop [3, 4] (fun f i => ∃ k : Nat, k ≤ s.size ∧ i = .int .i64 k ∧ f = .int .u64 (fnvS 14695981039346656037 (s.data.toList.take k) : Nat)) (fun _ i => s.size - (intOf i).toNat)
  case atStart => exact ⟨0, by omega, rfl, rfl⟩
  case round =>
    obtain ⟨k, hk, rfl, rfl⟩ := hrel
    have hy := fnvS_lt (s.data.toList.take k) (x := 14695981039346656037) (by decide)
    by_cases hlt : k < s.size
    · have HS := Lib.hid (show fnvS 14695981039346656037 (s.data.toList.take (k + 1)) = fnvB (fnvS 14695981039346656037 (s.data.toList.take k)) s[k] by rw [take_snoc s k hlt, fnvS_snoc])
      go_wp2
      go_round
      case rel => exact ⟨k + 1, by omega, by go_num, by rw [fnvB_walk _ _ hy, HS.out]⟩
      case measure => simp [intOf]; omega
    · go_wp2
      go_ret
      exact ⟨ret_int (by rw [take_all s k hlt]), rfl⟩

def bls (ss : List ByteArray) : List (List UInt8) := ss.map fun s => s.data.toList
theorem bls_snoc (ss : List ByteArray) (k : Nat) (h : k < ss.length) : bls (ss.take (k + 1)) = bls (ss.take k) ++ [ss[k].data.toList] := by
  unfold bls; rw [List.take_succ_eq_append_getElem h, List.map_append]; rfl
theorem bls_all (ss : List ByteArray) (k : Nat) (h : ¬ k < ss.length) : bls (ss.take k) = bls ss := by
  rw [List.take_of_length_le (by omega)]
/-- WHAT A CALL IS TOLD OF A LIST OF TEXTS: its texts lie one behind the other from a on (of none nothing is asked). -/
def StrRow (w : World) (a : Option Addr) (ss : List ByteArray) : Prop :=
  ss.length ≤ maxLen ∧ (∀ (i : Nat) (h : i < ss.length), ss[i].size ≤ maxLen) ∧
    (0 < ss.length → ∃ b off, a = some ⟨b, off, none⟩ ∧ ∀ (i : Nat) (h : i < ss.length), w.cell? ⟨b, off + i, none⟩ = some (.string ss[i]))

theorem StrRow.below {w w' : World} {a : Option Addr} {ss : List ByteArray} {B : Nat} (h : StrRow w a ss) (hb : Below B w w') (hB : ∀ x, a = some x → x.block < B) : StrRow w' a ss := by
  refine ⟨h.1, h.2.1, fun h0 => ?_⟩
  obtain ⟨b, off, e, hc⟩ := h.2.2 h0
  exact ⟨b, off, e, fun i hi => by rw [hb.cell (p := ⟨b, off + i, none⟩) (by have := hB _ e; exact this)]; exact hc i hi⟩

theorem StrRow.keep {w w' : World} {a : Option Addr} {ss : List ByteArray} (h : StrRow w a ss) (hb : Below w.heap.size w w') : StrRow w' a ss := by
  refine ⟨h.1, h.2.1, fun h0 => ?_⟩
  obtain ⟨b, off, e, hc⟩ := h.2.2 h0
  exact ⟨b, off, e, fun i hi => by rw [hb.cell (p := ⟨b, off + i, none⟩) (block_lt_of_cell (hc i hi))]; exact hc i hi⟩

theorem add_any (f : Nat) (a : Option Addr) (cap : Nat) (ss : List ByteArray) (w : World) (hf : f < 18446744073709551616) (h : StrRow w a ss) :
    Calls Try.prog 33 #[.int .u64 f, .slice a ss.length cap] w fun e w' => e = .returned (.int .u64 (fnvL f (bls ss) : Nat)) ∧ w = w' := by
  obtain ⟨hl, hs, hc⟩ := h
  unfold maxLen at hl hs
  have HS0 := Lib.hid hs
  have HC0 := Lib.hid hc
  clear hs hc
  go_enter Try.func33, Try.ntmps33
  go_wp2
  go_loop [0, 10] (fun x i => ∃ k : Nat, k ≤ ss.length ∧ i = .int .i64 k ∧ x = .int .u64 (fnvL f (bls (ss.take k)) : Nat)) (fun _ i => ss.length - (intOf i).toNat)
  case atStart => exact ⟨0, by omega, rfl, rfl⟩
  case round =>
    obtain ⟨k, hk, rfl, rfl⟩ := hrel
    have hy := fnvL_lt (bls (ss.take k)) hf
    by_cases hlt : k < ss.length
    · have HS := Lib.hid (show fnvL f (bls (ss.take (k + 1))) = fnvS (fnvL f (bls (ss.take k))) ss[k].data.toList by rw [bls_snoc ss k hlt, fnvL_snoc])
      obtain ⟨b, off, rfl, hcell⟩ := HC0.out (by omega)
      have hc := hcell k hlt
      have hsz := HS0.out k hlt
      clear hcell
      generalize fnvL f (bls (ss.take k)) = x0 at hy HS ⊢
      generalize ss[k] = s at hc hsz HS
      go_wp2
      go_loop [0, 16] (fun x i => ∃ j : Nat, j ≤ s.size ∧ i = .int .i64 j ∧ x = .int .u64 (fnvS x0 (s.data.toList.take j) : Nat)) (fun _ i => s.size - (intOf i).toNat)
      case atStart => exact ⟨0, by omega, rfl, rfl⟩
      case round =>
        obtain ⟨j, hj, rfl, rfl⟩ := hrel
        have hz := fnvS_lt (s.data.toList.take j) hy
        by_cases hjl : j < s.size
        · have HT := Lib.hid (show fnvS x0 (s.data.toList.take (j + 1)) = fnvB (fnvS x0 (s.data.toList.take j)) s[j] by rw [take_snoc s j hjl, fnvS_snoc])
          go_wp2
          go_round
          case rel => exact ⟨j + 1, by omega, by go_num, by rw [fnvB_walk _ _ hz, HT.out]⟩
          case measure => simp [intOf]; omega
        · go_wp2
          go_round
          case rel => exact ⟨k + 1, by omega, by go_num, by rw [HS.out, take_all s j hjl]⟩
          case measure => simp [intOf]; omega
    · go_wp2
      go_ret
      exact ⟨ret_int (by rw [bls_all ss k hlt]), rfl⟩

theorem of_any (a : Option Addr) (cap : Nat) (ss : List ByteArray) (w : World) (h : StrRow w a ss) :
    Calls Try.prog 28 #[.slice a ss.length cap] w fun e w' => e = .returned (.int .u64 (fnvL 14695981039346656037 (bls ss) : Nat)) ∧ w = w' := by
  have hc := add_any 14695981039346656037 a cap ss w (by decide) h
  rw [show ((14695981039346656037 : Nat) : Int) = 14695981039346656037 from rfl] at hc
  have H := Lib.hid hc
  clear hc
  go_enter Try.func28, Try.ntmps28
  go_wp2_with (go_at_call 33; refine H.out.mono ?_; rintro e w' ⟨rfl, rfl⟩)
  go_ret
  exact ⟨rfl, rfl⟩

theorem row_one (w : World) (b : Nat) (s : ByteArray) (hs : s.size ≤ maxLen) (hc : w.cell? ⟨b, 0, none⟩ = some (.string s)) : StrRow w (some ⟨b, 0, none⟩) [s] := by
  refine ⟨by simp [maxLen], fun i h => ?_, fun _ => ⟨b, 0, rfl, fun i h => ?_⟩⟩
  · obtain rfl : i = 0 := by simpa using h
    exact hs
  · obtain rfl : i = 0 := by simpa using h
    exact hc
/-- One text as a list of texts: what the sums of it are. -/
theorem of_one (b : Nat) (cap : Nat) (s : ByteArray) (w : World) (hs : s.size ≤ maxLen) (hc : w.cell? ⟨b, 0, none⟩ = some (.string s)) :
    Calls Try.prog 28 #[.slice (some ⟨b, 0, none⟩) 1 cap] w fun e w' => e = .returned (.int .u64 (fnvS 14695981039346656037 s.data.toList : Nat)) ∧ w = w' := by
  have := of_any (some ⟨b, 0, none⟩) cap [s] w (row_one w b s hs hc)
  rw [fnvL_flat] at this
  simpa [bls] using this
/-- At most n bytes. -/
def cutB (s : ByteArray) (n : Nat) : ByteArray := if n < s.size then s.extract 0 n else s
theorem cut_any (s : ByteArray) (n : Nat) (w : World) (hs : s.size ≤ maxLen) (hn : n ≤ 100000) :
    Calls Try.prog 19 #[.string s, .int .i64 n] w fun e w' => e = .returned (.string (cutB s n)) ∧ w = w' := by
  unfold maxLen at hs
  by_cases h : n < s.size
  · go_enter Try.func19, Try.ntmps19
    go_wp2
    go_ret
    exact ⟨by unfold cutB; rw [if_pos h]; rfl, rfl⟩
  · go_enter Try.func19, Try.ntmps19
    go_wp2
    go_ret
    exact ⟨by unfold cutB; rw [if_neg h]; rfl, rfl⟩
theorem cutB_le (s : ByteArray) (n : Nat) : (cutB s n).size ≤ n := by
  unfold cutB; split
  · simp; omega
  · omega
theorem cutB_le' (s : ByteArray) (n : Nat) (h : n ≤ 100000) : (cutB s n).size ≤ maxLen := by
  have := cutB_le s n; unfold maxLen; omega
theorem of_a (b : Nat) (cap : Nat) (w : World) (hc : w.cell? ⟨b, 0, none⟩ = some (.string ⟨#[97]⟩)) :
    Calls Try.prog 28 #[.slice (some ⟨b, 0, none⟩) 1 cap] w fun e w' => e = .returned (.int .u64 12638187200555641996) ∧ w = w' := by
  have h := of_one b cap ⟨#[97]⟩ w (by decide) hc
  rw [show fnvS 14695981039346656037 (ByteArray.mk #[97]).data.toList = 12638187200555641996 from by decide +kernel] at h
  exact h
end Go.Proofs.Ythgnkkpmnfjohaa
