/-
  What each call of layer 1, and of the document's own answers for it, comes to: one contract a function.
-/
import Derived.Test.YtpilkaggiajjmaaRows
import Derived.Test.YtpilkaggiajjmaaMath
import Derived.WalkKit
import Derived.Outline
import Derived.Lib.Hide
namespace Go.Proofs.Ytpilkaggiajjmaa
open Go.RowKit
set_option linter.unusedVariables false

theorem ret_int {k : IntKind} {a b : Int} (h : a = b) : Ending.returned (.int k a) = .returned (.int k b) := by rw [h]
theorem crcByte_any (x b : Nat) (w : World) (hx : x < 4294967296) (hb : b < 256) :
    Calls Try.prog 125 #[.int .u32 x, .int .u8 b] w fun e w' => e = .returned (.int .u32 (iterC 8 (x ^^^ b) : Nat)) ∧ w = w' := by
  have hxb : x ^^^ b < 4294967296 := xor_lt32 hx (by omega)
  go_enter Try.func125, Try.ntmps125
  go_wp2
  go_loop [0, 5, 10] (fun x' _ i => ∃ k : Nat, k ≤ 8 ∧ i = .int .i64 k ∧ x' = .int .u32 (iterC k (x ^^^ b) : Nat)) (fun _ _ i => 8 - (intOf i).toNat)
  case atStart => exact ⟨0, by omega, rfl, by rw [xorC_walk x b hx hb]; rfl⟩
  case round =>
    obtain ⟨k, hk, rfl, rfl⟩ := hrel
    have hy := iterC_lt k hxb
    by_cases hlt : k < 8
    · go_wp2
      go_round
      case rel => exact ⟨k + 1, by omega, by go_num, by rw [stepC_walk _ hy]; rfl⟩
      case measure => simp [intOf]; omega
    · go_wp2
      go_ret
      obtain rfl : k = 8 := by omega
      exact ⟨rfl, rfl⟩

theorem take_snoc (s : ByteArray) (k : Nat) (h : k < s.size) : s.data.toList.take (k + 1) = s.data.toList.take k ++ [s[k]] := by
  rw [List.take_succ_eq_append_getElem (by simpa using h)]; rfl
theorem take_all (s : ByteArray) (k : Nat) (h : ¬ k < s.size) : s.data.toList.take k = s.data.toList :=
  List.take_of_length_le (by simp; omega)

theorem refCrc_any (s : ByteArray) (w : World) (hs : s.size ≤ maxLen) :
    Calls Try.prog 103 #[.string s] w fun e w' => e = .returned (.int .u32 (4294967295 - crcS 4294967295 s.data.toList : Nat)) ∧ w = w' := by
  unfold maxLen at hs
  go_enter Try.func103, Try.ntmps103
  go_wp2
  go_loop [3, 4] (fun f i => ∃ k : Nat, k ≤ s.size ∧ i = .int .i64 k ∧ f = .int .u32 (crcS 4294967295 (s.data.toList.take k) : Nat)) (fun _ i => s.size - (intOf i).toNat)
  case atStart => exact ⟨0, by omega, rfl, rfl⟩
  case round =>
    obtain ⟨k, hk, rfl, rfl⟩ := hrel
    have hy := crcS_lt (s.data.toList.take k) (x := 4294967295) (by decide)
    by_cases hlt : k < s.size
    · have HS := Lib.hid (show crcS 4294967295 (s.data.toList.take (k + 1)) = crcB (crcS 4294967295 (s.data.toList.take k)) s[k] by rw [take_snoc s k hlt, crcS_snoc])
      have hb := byte_lt s[k]
      generalize crcS 4294967295 (s.data.toList.take k) = x0 at hy HS ⊢
      go_wp2
      go_loop [3, 5, 6] (fun f c i => ∃ j y d : Nat, j ≤ 8 ∧ y < 4294967296 ∧ d < 256 ∧ i = .int .i64 j ∧ f = .int .u32 y ∧ c = .int .u32 d ∧ Hid (d = s[k].toNat / 2 ^ j) ∧ Hid (y ^^^ d = iterC j (x0 ^^^ s[k].toNat))) (fun _ _ i => 8 - (intOf i).toNat)
      case atStart => exact ⟨0, x0, s[k].toNat, by omega, hy, hb, rfl, rfl, rfl, Lib.hid (by simp), Lib.hid rfl⟩
      case round =>
        obtain ⟨j, y, d, hj, hy1, hd, rfl, rfl, rfl, H1, H2⟩ := hrel
        by_cases hjl : j < 8
        · by_cases hodd : (y + d) % 2 = 1
          · go_wp2
            go_round
            case rel => exact ⟨j + 1, (y / 2) ^^^ 3988292384, d / 2, by omega, xor_lt32 (by omega) (by decide), by omega, by go_num, by rw [ref_odd_val y hy1], by go_num, Lib.hid (half_pow H1.out), Lib.hid (ref_odd hodd H2.out)⟩
            case measure => simp [intOf]; omega
          · go_wp2
            go_round
            case rel => exact ⟨j + 1, y / 2, d / 2, by omega, by omega, by omega, by go_num, by go_num, by go_num, Lib.hid (half_pow H1.out), Lib.hid (ref_even hodd H2.out)⟩
            case measure => simp [intOf]; omega
        · go_wp2
          go_round
          case rel =>
            obtain rfl : j = 8 := by omega
            exact ⟨k + 1, by omega, by go_num, by rw [HS.out, ref_last hb H1.out H2.out]; rfl⟩
          case measure => simp [intOf]; omega
    · go_wp2
      go_ret
      rw [take_all s k hlt] at hy
      exact ⟨ret_int (by rw [take_all s k hlt]; omega), rfl⟩

def bls (ss : List ByteArray) : List (List UInt8) := ss.map fun s => s.data.toList
theorem bls_snoc (ss : List ByteArray) (k : Nat) (h : k < ss.length) : bls (ss.take (k + 1)) = bls (ss.take k) ++ [ss[k].data.toList] := by
  unfold bls; rw [List.take_succ_eq_append_getElem h, List.map_append]; rfl
theorem bls_all (ss : List ByteArray) (k : Nat) (h : ¬ k < ss.length) : bls (ss.take k) = bls ss := by
  rw [List.take_of_length_le (by omega)]
/-- WHAT A CALL IS TOLD OF A LIST OF TEXTS: its texts lie one behind the other from a on (of none nothing is asked). -/
def StrRow (w : World) (a : Option Addr) (ss : List ByteArray) : Prop :=
  ss.length ≤ maxLen ∧ (∀ (i : Nat) (h : i < ss.length), ss[i].size ≤ maxLen) ∧
    (0 < ss.length → ∃ b off, a = some ⟨b, off, none⟩ ∧ ∀ (i : Nat) (h : i < ss.length), w.cell? ⟨b, off + i, none⟩ = some (.string ss[i]))

theorem StrRow.below {w w' : World} {a : Option Addr} {ss : List ByteArray} {B : Nat} (h : StrRow w a ss) (hb : Below B w w') (hB : ∀ x, a = some x → x.block < B) : StrRow w' a ss := by
  refine ⟨h.1, h.2.1, fun h0 => ?_⟩
  obtain ⟨b, off, e, hc⟩ := h.2.2 h0
  exact ⟨b, off, e, fun i hi => by rw [hb.cell (p := ⟨b, off + i, none⟩) (by have := hB _ e; exact this)]; exact hc i hi⟩

theorem StrRow.keep {w w' : World} {a : Option Addr} {ss : List ByteArray} (h : StrRow w a ss) (hb : Below w.heap.size w w') : StrRow w' a ss := by
  refine ⟨h.1, h.2.1, fun h0 => ?_⟩
  obtain ⟨b, off, e, hc⟩ := h.2.2 h0
  exact ⟨b, off, e, fun i hi => by rw [hb.cell (p := ⟨b, off + i, none⟩) (block_lt_of_cell (hc i hi))]; exact hc i hi⟩

theorem more_any (x : Nat) (a : Option Addr) (cap : Nat) (ss : List ByteArray) (w : World) (hx : x < 4294967296) (h : StrRow w a ss) :
    Calls Try.prog 124 #[.int .u32 x, .slice a ss.length cap] w fun e w' => e = .returned (.int .u32 (moreS x (bls ss) : Nat)) ∧ w = w' := by
  obtain ⟨hl, hs, hc⟩ := h
  unfold maxLen at hl hs
  have HS0 := Lib.hid hs
  have HC0 := Lib.hid hc
  clear hs hc
  go_enter Try.func124, Try.ntmps124
  go_wp2
  go_loop [5, 13] (fun x' i => ∃ k : Nat, k ≤ ss.length ∧ i = .int .i64 k ∧ x' = .int .u32 (crcL (4294967295 - x) (bls (ss.take k)) : Nat)) (fun _ i => ss.length - (intOf i).toNat)
  case atStart => exact ⟨0, by omega, rfl, by rw [not_walk x hx]; rfl⟩
  case round =>
    obtain ⟨k, hk, rfl, rfl⟩ := hrel
    have hy := crcL_lt (bls (ss.take k)) (x := 4294967295 - x) (by omega)
    by_cases hlt : k < ss.length
    · have HS := Lib.hid (show crcL (4294967295 - x) (bls (ss.take (k + 1))) = crcS (crcL (4294967295 - x) (bls (ss.take k))) ss[k].data.toList by rw [bls_snoc ss k hlt, crcL_snoc])
      obtain ⟨b, off, rfl, hcell⟩ := HC0.out (by omega)
      have hc := hcell k hlt
      have hsz := HS0.out k hlt
      clear hcell
      generalize crcL (4294967295 - x) (bls (ss.take k)) = x0 at hy HS ⊢
      generalize ss[k] = s at hc hsz HS
      go_wp2
      go_loop [5, 19] (fun x i => ∃ j : Nat, j ≤ s.size ∧ i = .int .i64 j ∧ x = .int .u32 (crcS x0 (s.data.toList.take j) : Nat)) (fun _ i => s.size - (intOf i).toNat)
      case atStart => exact ⟨0, by omega, rfl, rfl⟩
      case round =>
        obtain ⟨j, hj, rfl, rfl⟩ := hrel
        have hz := crcS_lt (s.data.toList.take j) hy
        by_cases hjl : j < s.size
        · have HT := Lib.hid (show crcS x0 (s.data.toList.take (j + 1)) = crcB (crcS x0 (s.data.toList.take j)) s[j] by rw [take_snoc s j hjl, crcS_snoc])
          have hb := byte_lt s[j]
          go_wp2_with (go_at_call 125; refine (crcByte_any _ _ _ hz hb).mono ?_; rintro e w' ⟨rfl, rfl⟩)
          go_round
          case rel => exact ⟨j + 1, by omega, by go_num, by rw [HT.out]; rfl⟩
          case measure => simp [intOf]; omega
        · go_wp2
          go_round
          case rel => exact ⟨k + 1, by omega, by go_num, by rw [HS.out, take_all s j hjl]⟩
          case measure => simp [intOf]; omega
    · go_wp2
      go_ret
      exact ⟨ret_int (by rw [not_walk _ hy, bls_all ss k hlt]; rfl), rfl⟩

theorem crc_any (a : Option Addr) (cap : Nat) (ss : List ByteArray) (w : World) (h : StrRow w a ss) :
    Calls Try.prog 121 #[.slice a ss.length cap] w fun e w' => e = .returned (.int .u32 (moreS 0 (bls ss) : Nat)) ∧ w = w' := by
  have hc := more_any 0 a cap ss w (by decide) h
  rw [show ((0 : Nat) : Int) = 0 from rfl] at hc
  have H := Lib.hid hc
  clear hc
  go_enter Try.func121, Try.ntmps121
  go_wp2_with (go_at_call 124; refine H.out.mono ?_; rintro e w' ⟨rfl, rfl⟩)
  go_ret
  exact ⟨rfl, rfl⟩

theorem row_one (w : World) (b : Nat) (s : ByteArray) (hs : s.size ≤ maxLen) (hc : w.cell? ⟨b, 0, none⟩ = some (.string s)) : StrRow w (some ⟨b, 0, none⟩) [s] := by
  refine ⟨by simp [maxLen], fun i h => ?_, fun _ => ⟨b, 0, rfl, fun i h => ?_⟩⟩
  · obtain rfl : i = 0 := by simpa using h
    exact hs
  · obtain rfl : i = 0 := by simpa using h
    exact hc
theorem crc_one (b : Nat) (cap : Nat) (s : ByteArray) (w : World) (hs : s.size ≤ maxLen) (hc : w.cell? ⟨b, 0, none⟩ = some (.string s)) :
    Calls Try.prog 121 #[.slice (some ⟨b, 0, none⟩) 1 cap] w fun e w' => e = .returned (.int .u32 (4294967295 - crcS 4294967295 s.data.toList : Nat)) ∧ w = w' := by
  have := crc_any (some ⟨b, 0, none⟩) cap [s] w (row_one w b s hs hc)
  rw [moreS_zero] at this
  simpa [bls] using this

/-- At most n bytes. -/
def cutB (s : ByteArray) (n : Nat) : ByteArray := if n < s.size then s.extract 0 n else s
theorem cut_any (s : ByteArray) (n : Nat) (w : World) (hs : s.size ≤ maxLen) (hn : n ≤ 100000) :
    Calls Try.prog 16 #[.string s, .int .i64 n] w fun e w' => e = .returned (.string (cutB s n)) ∧ w = w' := by
  unfold maxLen at hs
  by_cases h : n < s.size
  · go_enter Try.func16, Try.ntmps16
    go_wp2
    go_ret
    exact ⟨by unfold cutB; rw [if_pos h]; rfl, rfl⟩
  · go_enter Try.func16, Try.ntmps16
    go_wp2
    go_ret
    exact ⟨by unfold cutB; rw [if_neg h]; rfl, rfl⟩
theorem cutB_le (s : ByteArray) (n : Nat) : (cutB s n).size ≤ n := by
  unfold cutB; split
  · simp; omega
  · omega
theorem cutB_le' (s : ByteArray) (n : Nat) (h : n ≤ 100000) : (cutB s n).size ≤ maxLen := by
  have := cutB_le s n; unfold maxLen; omega
theorem crc_9 (b : Nat) (cap : Nat) (w : World) (hc : w.cell? ⟨b, 0, none⟩ = some (.string ⟨#[49, 50, 51, 52, 53, 54, 55, 56, 57]⟩)) :
    Calls Try.prog 121 #[.slice (some ⟨b, 0, none⟩) 1 cap] w fun e w' => e = .returned (.int .u32 3421780262) ∧ w = w' := by
  have h := crc_one b cap ⟨#[49, 50, 51, 52, 53, 54, 55, 56, 57]⟩ w (by decide) hc
  rw [show 4294967295 - crcS 4294967295 (ByteArray.mk #[49, 50, 51, 52, 53, 54, 55, 56, 57]).data.toList = 3421780262 from by decide +kernel] at h
  exact h
end Go.Proofs.Ytpilkaggiajjmaa
