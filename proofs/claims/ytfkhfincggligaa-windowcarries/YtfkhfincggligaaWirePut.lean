/-
  More calls of bytes that grow: counts, whole numbers, texts.
-/
import Derived.Test.YtfkhfincggligaaWireOut
import Derived.Test.YtfkhfincggligaaSums
namespace Go.Proofs.Ytfkhfincggligaa
open Go.RowKit
set_option linter.unusedVariables false

theorem OutAt.touch {S : Nat → Prop} {w w' : World} {b : Nat} {v : Value} {l : List UInt8} (h : OutAt w b v l) (ht : Touch S w w') (hb : ¬ S b) (hv : ∀ k, v.ownBlock = some k → ¬ S k) : OutAt w' b v l := by
  refine ⟨(ht.cell (p := ⟨b, 0, none⟩) h.lt hb).trans h.1, (ht.frozen (p := ⟨b, 0, none⟩) h.lt hb).trans h.2.1, ?_, h.2.2.2⟩
  refine ⟨h.2.2.1.1, ?_⟩
  rcases h.2.2.1.2 with h' | ⟨g, cap, cur, hv', hg, hh, hr⟩
  · exact .inl h'
  · have hlt : g < w.heap.size := (Array.getElem?_eq_some_iff.1 hh).1
    exact .inr ⟨g, cap, cur, hv', hg, (ht.block g hlt (hv g (by rw [hv']; rfl))).trans hh, hr⟩
theorem OutAt.alloc {w : World} {b : Nat} {v : Value} {l : List UInt8} (h : OutAt w b v l) (o : Obj) : OutAt (w.alloc o) b v l :=
  h.touch ((Touch.refl (fun _ => False) w).alloc o) id (fun _ _ => id)
theorem OutAt.below {w w' : World} {b : Nat} {v : Value} {l : List UInt8} (h : OutAt w b v l) (hb : Below w.heap.size w w') : OutAt w' b v l :=
  h.touch (touch_of_below (S := fun _ => False) hb) id (fun _ _ => id)
theorem OutTo.alloc0 {w w' : World} {b : Nat} {v : Value} {l : List UInt8} {o : Obj} (h : OutTo (w.alloc o) b v l w') : OutTo w b v l w' := by
  obtain ⟨v', h1, h2, h3⟩ := h
  refine ⟨v', h1, fun k hk => ?_, ?_⟩
  · rcases h2 k hk with h' | h'
    · exact .inl h'
    · exact .inr (by simp at h'; omega)
  · exact ((Touch.refl _ w).alloc o).trans h3
theorem OutAt.fresh {w : World} {b : Nat} {v : Value} {l : List UInt8} (h : OutAt w b v l) : ∀ k, v.ownBlock = some k → k < w.heap.size := fun k hk => (h.2.2.1.lt k hk).2
def countsB (ns : List Int) : List UInt8 := numsB (ns.map Int.toNat)
theorem countsB_snoc (ns : List Int) (k : Nat) (h : k < ns.length) : countsB (ns.take (k + 1)) = countsB (ns.take k) ++ numB (Int.toNat ns[k]) := by
  unfold countsB numsB
  rw [List.take_succ_eq_append_getElem h, List.map_append, List.map_append, List.flatten_append]
  simp
def intsB (ns : List Int) : List UInt8 := numsB (ns.map zig)
theorem intsB_snoc (ns : List Int) (k : Nat) (h : k < ns.length) : intsB (ns.take (k + 1)) = intsB (ns.take k) ++ numB (zig ns[k]) := by
  unfold intsB numsB
  rw [List.take_succ_eq_append_getElem h, List.map_append, List.map_append, List.flatten_append]
  simp
/-- A text's bytes: how many, and these. -/
def strB (l : List UInt8) : List UInt8 := numB l.length ++ l
def strsB (ss : List ByteArray) : List UInt8 := (ss.map fun s => strB s.data.toList).flatten
theorem strsB_snoc (ss : List ByteArray) (k : Nat) (h : k < ss.length) : strsB (ss.take (k + 1)) = strsB (ss.take k) ++ strB ss[k].data.toList := by
  unfold strsB
  rw [List.take_succ_eq_append_getElem h, List.map_append, List.flatten_append]
  simp
end Go.Proofs.Ytfkhfincggligaa
