/-
  A text as a list of bytes of its own, one byte of it turned, and back: what these conversions come to.
-/
import Derived.Test.YtpilkaggiajjmaaSums
import Derived.Laws.IdiomStrings
import Derived.Lib.ConvBytes
import Derived.Laws.StructEq
import Derived.Below
namespace Go.Proofs.Ytpilkaggiajjmaa
open Go.RowKit
set_option linter.unusedVariables false

theorem str_ne {a b : ByteArray} (h : a.data.toList ≠ b.data.toList) : (a.toList == b.toList) = false := by
  rw [ByteArray.toList_eq, ByteArray.toList_eq]; simpa using h
theorem str_eq (a : ByteArray) : (a.toList == a.toList) = true := by simp
theorem getD_at (s : ByteArray) (j : Nat) (h : j < s.size) : s.data.toList.getD j 0 = s[j] := by
  rw [List.getD_eq_getElem?_getD, List.getElem?_eq_getElem (by simpa using h)]; rfl
theorem bytesWorld_below (w : World) (e : TypeId) (s : ByteArray) : Below w.heap.size w (Lib.bytesWorld w e s) := by
  refine ⟨?_, ?_, ?_, ?_, fun k hk => Lib.bytesWorld_at_old w e s k hk⟩
  · simp [Lib.bytesWorld, World.freeze, World.alloc, World.drew, -World.alloc_eq, -World.drew_eq]
  · simp [Lib.bytesWorld, World.freeze, World.alloc, World.drew, -World.alloc_eq, -World.drew_eq]
  · simp [Lib.bytesWorld, World.freeze, World.alloc, World.drew, -World.alloc_eq, -World.drew_eq]
  · rw [Lib.bytesWorld_size]; omega
/-- '[]byte(s)': a list of its own. -/
theorem bytes_of (w : World) (s : ByteArray) : ∃ cap w2, (convert 9 115 (.string s)).run Try.prog w = .ok (.slice (some ⟨w.heap.size, 0, none⟩) s.size cap) w2 ∧
    Below w.heap.size w w2 ∧ w.heap.size < w2.heap.size ∧ (∀ j (h : j < s.size), w2.cell? ⟨w.heap.size, j, none⟩ = some (.int .u8 (s[j].toNat : Int))) ∧ (∀ j, j < s.size → w2.frozen? ⟨w.heap.size, j, none⟩ = false) := by
  refine ⟨_, _, Lib.run_convert_string_bytes (P := Try.prog) w 9 115 5 s Try.underlying9 Try.underlying115 Try.underlying5, bytesWorld_below _ _ _, by rw [Lib.bytesWorld_size]; omega, fun j h => ?_, fun j h => ?_⟩
  · rw [Lib.bytesWorld_cell w _ s j h]
    rw [getD_at s j h]
  · unfold World.frozen?
    rw [Lib.bytesWorld_at_new]
    have : (Lib.bytesCells w 5 s).size = s.size + (grownCap w s.size 0 5 - s.size) := by
      simp [Lib.bytesCells]
    simp [this]
    omega
/-- 'string(b)' of bytes that lie one behind the other. -/
theorem bytes_back (w : World) (b cap n : Nat) (l : List UInt8) (hn : n = l.length) (hc : ∀ j (hj : j < l.length), w.cell? ⟨b, j, none⟩ = some (.int .u8 (l[j].toNat : Int))) :
    (convert 115 9 (.slice (some ⟨b, 0, none⟩) n cap)).run Try.prog w = .ok (.string ⟨l.toArray⟩) w := by
  subst hn
  exact run_convert_bytes_back (P := Try.prog) w 115 9 5 ⟨b, 0, none⟩ cap l Try.underlying115 Try.underlying5 Try.underlying9 (fun j hj => by have := hc j hj; cases j <;> simpa [Addr.add] using this)
/-- The bytes of s, the one at i turned by c. -/
def bent (s : ByteArray) (i c : Nat) : List UInt8 := s.data.toList.set i (UInt8.ofNat ((s.data.toList.getD i 0).toNat ^^^ c))
theorem bent_length (s : ByteArray) (i c : Nat) : (bent s i c).length = s.size := by
  unfold bent; simp
theorem bent_cells (s : ByteArray) (i c : Nat) (hi : i < s.size) (hcl : c < 256) (w : World) (b : Nat) (hc : ∀ j (h : j < s.size), w.cell? ⟨b, j, none⟩ = some (.int .u8 (s[j].toNat : Int))) :
    ∀ j (hj : j < (bent s i c).length), (w.setCell ⟨b, i, none⟩ (.int .u8 (bits .xor .u8 (s[i].toNat : Int) (c : Int)))).cell? ⟨b, j, none⟩ = some (.int .u8 ((bent s i c)[j].toNat : Int)) := by
  intro j hj
  rw [bent_length] at hj
  have hi' : i < s.data.toList.length := by simpa using hi
  have hj' : j < s.data.toList.length := by simpa using hj
  have e := getD_at s i hi
  by_cases h : i = j
  · subst h
    rw [World.cell?_setCell_same _ _ _ (hc i hi), u8_xor_nat _ _ (byte_lt _) hcl]
    simp only [bent, List.getElem_set_self, e]
    have hx := xor_lt8 (byte_lt s[i]) hcl
    rw [UInt8.toNat_ofNat_of_lt' (by simpa using hx)]
  · rw [World.cell?_setCell_other _ _ _ _ (by intro hh; cases hh; exact h rfl), hc j hj]
    simp only [bent, List.getElem_set_ne h]
    rfl
theorem bent_crc (s : ByteArray) (i c : Nat) (hi : i < s.size) (hcl : c < 256) (h0 : c ≠ 0) (x : Nat) (hx : x < 4294967296) : crcS x (bent s i c) ≠ crcS x s.data.toList := by
  have hi' : i < s.data.toList.length := by simpa using hi
  refine crcS_set _ i hi' _ ?_ x hx
  have e : s.data.toList.getD i 0 = s.data.toList[i] := by rw [List.getD_eq_getElem?_getD, List.getElem?_eq_getElem hi']; rfl
  rw [e]
  intro h
  have h2 := congrArg UInt8.toNat h
  rw [UInt8.toNat_ofNat_of_lt' (by simpa using xor_lt8 (byte_lt _) hcl)] at h2
  exact xor_byte_ne h0 h2
end Go.Proofs.Ytpilkaggiajjmaa
