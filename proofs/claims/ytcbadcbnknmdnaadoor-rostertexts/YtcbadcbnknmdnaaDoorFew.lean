/-
  The law's own helper that takes at most n texts of at most m bytes: what it comes to.
-/
import Derived.Test.YtcbadcbnknmdnaaDoorVals
import Derived.Below
import Derived.Deep.LoopGhost
namespace Go.Proofs.YtcbadcbnknmdnaaDoor
open Go.RowKit
set_option linter.unusedVariables false

theorem info9 : (Tryd.prog.info? 9).map (fun i => (i.zero, i.size, i.bytes)) = some (some (.string .empty), 1, 16) := by kernel_rfl
/-- WHAT THE ROW's READING SAYS OF A LIST OF TEXTS THAT CAME IN. -/
def IsStrs (w : World) (a : Option Addr) (len cap : Nat) (zs : List ByteArray) : Prop :=
  (a = none ∧ len = 0 ∧ cap = 0 ∧ zs = []) ∨ ∃ x, a = some x ∧ len ≤ cap ∧ cap ≤ maxLen ∧ zs.length = cap ∧ (∀ i, i < zs.length → w.cell? (x.add i) = some (.string (zs.getD i ByteArray.empty))) ∧ (∀ s ∈ zs, s.size ≤ maxLen)
theorem IsStrs.row {w : World} {a : Option Addr} {len cap : Nat} {zs : List ByteArray} (h : IsStrs w a len cap zs) : ∃ ss : List ByteArray, ss.length = len ∧ StrRow w a ss := by
  rcases h with ⟨rfl, rfl, rfl, rfl⟩ | ⟨x, rfl, hl, hm, hz, hcell, hw⟩
  · exact ⟨[], rfl, by simp [maxLen], fun i h => by simp at h, fun h => by simp at h⟩
  · have hlen : (zs.take len).length = len := by simp; omega
    refine ⟨zs.take len, hlen, by omega, fun i hi => ?_, fun h0 => ?_⟩
    · exact hw _ (List.mem_of_mem_take (List.getElem_mem hi))
    · obtain ⟨b, off, spot⟩ := x
      have h0' := hcell 0 (by omega)
      have hspot : spot = none := by simpa [Addr.add] using World.cell?_spot h0'
      subst hspot
      refine ⟨b, off, rfl, fun i hi => ?_⟩
      have hi' : i < zs.length := by omega
      have := hcell i hi'
      rw [List.getD_eq_getElem?_getD, List.getElem?_eq_getElem hi'] at this
      rw [List.getElem_take]
      cases i <;> simpa [Addr.add] using this

def fewL (ss : List ByteArray) (n m : Nat) : List ByteArray := (ss.take n).map (cutB · m)
theorem fewL_succ (ss : List ByteArray) (k m : Nat) (h : k < ss.length) : fewL ss (k + 1) m = fewL ss k m ++ [cutB ss[k] m] := by
  unfold fewL; rw [List.take_succ_eq_append_getElem h, List.map_append]; rfl
theorem fewL_length (ss : List ByteArray) (k m : Nat) (h : k ≤ ss.length) : (fewL ss k m).length = k := by
  unfold fewL; simp; omega
theorem bls_append (l m : List ByteArray) : bls (l ++ m) = bls l ++ bls m := by unfold bls; simp
/-- WHAT 'Few' LEAVES: a list of its own of the texts, and all of them. -/
def FewPost (w : World) (few : List ByteArray) (e : Ending) (w' : World) : Prop :=
  ∃ (a : Option Addr) (cap : Nat) (A : ByteArray), e = .returned (.tuple #[.slice a few.length cap, .string A]) ∧ A.data.toList = (bls few).flatten ∧ A.size ≤ maxLen ∧ StrRow w' a few ∧ Below w.heap.size w w'

theorem owns_row {w : World} {base : Nat} {v : Value} {few : List ByteArray} (h : w.ownsRow base 9 1 v few.length (few.map Value.string)) (hs : ∀ (i : Nat) (h : i < few.length), few[i].size ≤ maxLen) (hl : few.length ≤ maxLen) :
    ∃ a cap, v = .slice a few.length cap ∧ StrRow w a few := by
  rcases h.2 with ⟨hv, h0⟩ | ⟨g, cap, cur, hv, hg, hb, hn, hm, hsz, ht⟩
  · exact ⟨none, 0, by rw [hv, h0], hl, hs, fun h => by omega⟩
  · refine ⟨some ⟨g, 0, none⟩, cap, hv, hl, hs, fun _ => ⟨g, 0, rfl, fun i hi => ?_⟩⟩
    have hc := h.cells (g := g) (by rw [hv]; rfl) i (.string few[i]) (by simp [hi])
    cases i <;> simpa [Addr.add] using hc
theorem fewL_sizes (ss : List ByteArray) (n m : Nat) (hm : m ≤ 1000) : ∀ (i : Nat) (h : i < (fewL ss n m).length), (fewL ss n m)[i].size ≤ maxLen := by
  intro i h
  unfold fewL at h ⊢
  rw [List.getElem_map]
  exact cutB_le' _ _ (by omega)
theorem fewL_end (ss : List ByteArray) (k n m : Nat) (hk : k ≤ ss.length) (hn : k ≤ n) (h : ¬ (k < ss.length ∧ k < n)) : fewL ss n m = fewL ss k m := by
  by_cases h1 : k = n
  · rw [h1]
  · have : k = ss.length := by omega
    unfold fewL
    rw [List.take_of_length_le (by omega), List.take_of_length_le (by omega)]

theorem few_post {w wr : World} {ss : List ByteArray} {k n m : Nat} {v : Value} {A : ByteArray} (hm : m ≤ 1000) (hk : k ≤ 1000) (HE : fewL ss n m = fewL ss k m) (HL : (fewL ss k m).length = k)
    (HA : A.data.toList = (bls (fewL ss k m)).flatten) (hA : A.size ≤ 1000 * k) (HO : wr.ownsRow w.heap.size 9 1 v k ((fewL ss k m).map Value.string)) (hb : Below w.heap.size w wr) :
    FewPost w (fewL ss n m) (.returned (.tuple #[v, .string A])) wr := by
  rw [HE]
  obtain ⟨a, cap, hv, hr⟩ := owns_row (few := fewL ss k m) (by rw [HL]; exact HO) (fewL_sizes ss k m hm) (by rw [HL]; unfold maxLen; omega)
  exact ⟨a, cap, A, by rw [hv], HA, by unfold maxLen; omega, hr, hb⟩

end Go.Proofs.YtcbadcbnknmdnaaDoor
