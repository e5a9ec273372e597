/-
  Bytes that grow inside one call: all that they touch is of that call's own making.
-/
import Derived.Test.YtpilkaggiajjmaaWirePut
namespace Go.Proofs.Ytpilkaggiajjmaa
open Go.RowKit
set_option linter.unusedVariables false

/-- At block b lie the bytes l, as a thing that this call (which began in w0) made; nothing that was there in w0 has turned. -/
def OutIn (w0 : World) (b : Nat) (l : List UInt8) (w : World) : Prop :=
  ∃ v, OutAt w b v l ∧ w0.heap.size ≤ b ∧ (∀ k, v.ownBlock = some k → w0.heap.size ≤ k) ∧ Below w0.heap.size w0 w
theorem OutIn.lt {w0 w : World} {b : Nat} {l : List UInt8} (h : OutIn w0 b l w) : b < w.heap.size := by obtain ⟨v, h1, -⟩ := h; exact h1.lt
theorem OutIn.bel {w0 w : World} {b : Nat} {l : List UInt8} (h : OutIn w0 b l w) : Below w0.heap.size w0 w := by obtain ⟨v, -, -, -, h4⟩ := h; exact h4
theorem OutIn.start {w0 w : World} (h : Below w0.heap.size w0 w) (t : TypeId) : OutIn w0 w.heap.size [] (w.alloc (.cells #[.slice none 0 0] t)) :=
  ⟨.slice none 0 0, ⟨by simp, by simp [World.frozen?, World.alloc, -World.alloc_eq], World.ownsRow_nil _ _ _ _, by simp [Value.ownBlock]⟩, h.size, fun k hk => by simp [Value.ownBlock] at hk, h.alloc h.size _⟩
theorem OutIn.step {w0 w w' : World} {b : Nat} {l l' : List UInt8} {v : Value} (h2 : w0.heap.size ≤ b) (h3 : ∀ k, v.ownBlock = some k → w0.heap.size ≤ k) (h4 : Below w0.heap.size w0 w) (ho : OutTo w b v l' w') : OutIn w0 b l' w' := by
  obtain ⟨v', g1, g2, g3⟩ := ho
  refine ⟨v', g1, h2, fun k hk => ?_, h4.trans (g3.below h4.size ?_)⟩
  · rcases g2 k hk with h | h
    · exact h3 k h
    · exact Nat.le_trans h4.size h
  · rintro k hk (h | h)
    · omega
    · have := h3 k h; omega
theorem OutIn.below {w0 w w' : World} {b : Nat} {l : List UInt8} (h : OutIn w0 b l w) (hb : Below w.heap.size w w') : OutIn w0 b l w' := by
  obtain ⟨v, h1, h2, h3, h4⟩ := h
  exact ⟨v, h1.below hb, h2, h3, h4.trans (hb.mono h4.size)⟩
theorem fresh_row {w : World} {b : Nat} {v : Value} {l : List UInt8} (h : OutAt w b v l) (y : Addr) (hy : some (⟨w.heap.size, 0, none⟩ : Addr) = some y) : y.block ≠ b ∧ v.ownBlock ≠ some y.block := by
  cases hy
  refine ⟨fun e => ?_, fun e => ?_⟩
  · have := h.lt; simp at e; omega
  · have := h.fresh _ e; simp at this
theorem fresh_ints (k : IntKind) (w : World) (ns : List Int) (cells : Array Value) (t : TypeId) (hc : cells = (ns.map (Value.int k)).toArray) : IntRow k (w.alloc (.cells cells t)) (some ⟨w.heap.size, 0, none⟩) ns := by
  subst hc
  intro _
  refine ⟨w.heap.size, 0, rfl, fun i hi => ?_⟩
  simp [hi]
/-- Numbers put behind, handed in as a list of their own. -/
theorem outNum_in (w0 : World) (b : Nat) (l : List UInt8) (ns : List Nat) (cells : Array Value) (n cap : Nat) (w : World) (h : OutIn w0 b l w) (hc : cells = (ns.map fun (x : Nat) => Value.int .u64 (x : Int)).toArray) (hn : n = ns.length)
    (hl : l.length + 10 * ns.length ≤ 1000000000) (hns : ∀ x ∈ ns, x < 18446744073709551616) :
    Calls Try.prog 106 #[.pointer (some ⟨b, 0, none⟩), .slice (some ⟨w.heap.size, 0, none⟩) n cap] (w.alloc (.cells cells 178)) fun r w' => r = .returned (.pointer (some ⟨b, 0, none⟩)) ∧ OutIn w0 b (l ++ numsB ns) w' := by
  subst hn
  obtain ⟨v, h1, h2, h3, h4⟩ := h
  refine (outNum_any b v l (some ⟨w.heap.size, 0, none⟩) cap ns _ (h1.alloc _) hl hns (fresh_ints .u64 w _ _ _ (by rw [hc]; simp)) (fresh_row h1)).mono ?_
  rintro r w' ⟨rfl, ho⟩
  exact ⟨rfl, OutIn.step (l := l) h2 h3 h4 ho.alloc0⟩
theorem outCount_in (w0 : World) (b : Nat) (l : List UInt8) (ns : List Int) (cells : Array Value) (n cap : Nat) (w : World) (h : OutIn w0 b l w) (hc : cells = (ns.map (Value.int .i64)).toArray) (hn : n = ns.length)
    (hl : l.length + 10 * ns.length ≤ 1000000000) (hns : ∀ x ∈ ns, x ≤ 9223372036854775807) :
    Calls Try.prog 107 #[.pointer (some ⟨b, 0, none⟩), .slice (some ⟨w.heap.size, 0, none⟩) n cap] (w.alloc (.cells cells 3)) fun r w' => r = .returned (.pointer (some ⟨b, 0, none⟩)) ∧ OutIn w0 b (l ++ countsB ns) w' := by
  subst hn
  obtain ⟨v, h1, h2, h3, h4⟩ := h
  refine (outCount_any b v l (some ⟨w.heap.size, 0, none⟩) cap ns _ (h1.alloc _) hl hns (fresh_ints .i64 w _ _ _ hc) (fresh_row h1)).mono ?_
  rintro r w' ⟨rfl, ho⟩
  exact ⟨rfl, OutIn.step (l := l) h2 h3 h4 ho.alloc0⟩
theorem fresh_strs (w : World) (ss : List ByteArray) (cells : Array Value) (t : TypeId) (hc : cells = (ss.map Value.string).toArray) (hl : ss.length ≤ maxLen) (hs : ∀ s ∈ ss, s.size ≤ maxLen) : StrRow (w.alloc (.cells cells t)) (some ⟨w.heap.size, 0, none⟩) ss := by
  subst hc
  refine ⟨hl, fun i hi => hs _ (List.getElem_mem hi), fun _ => ⟨w.heap.size, 0, rfl, fun i hi => ?_⟩⟩
  simp [hi]
theorem strsB_size (ss : List ByteArray) : ∀ s ∈ ss, s.size ≤ (strsB ss).length := by
  intro s hs
  induction ss with
  | nil => simp at hs
  | cons t ss ih =>
    simp only [strsB, List.map_cons, List.flatten_cons, List.length_append, strB] at ih ⊢
    rcases List.mem_cons.1 hs with rfl | h
    · have : s.data.toList.length = s.size := by simp
      omega
    · have := ih h; omega
theorem strsB_count (ss : List ByteArray) : ss.length ≤ (strsB ss).length := by
  induction ss with
  | nil => simp
  | cons t ss ih =>
    simp only [strsB, List.map_cons, List.flatten_cons, List.length_append, strB, List.length_cons] at ih ⊢
    have : 0 < (numB t.data.toList.length).length := by
      by_cases h : t.data.toList.length < 128
      · rw [numB_lt h]; simp
      · rw [numB_ge (by omega)]; simp
    omega
theorem outStr_in (w0 : World) (b : Nat) (l : List UInt8) (ss : List ByteArray) (cells : Array Value) (n cap : Nat) (w : World) (h : OutIn w0 b l w) (hc : cells = (ss.map Value.string).toArray) (hn : n = ss.length)
    (hl : l.length + (strsB ss).length ≤ 900000000) :
    Calls Try.prog 108 #[.pointer (some ⟨b, 0, none⟩), .slice (some ⟨w.heap.size, 0, none⟩) n cap] (w.alloc (.cells cells 9)) fun r w' => r = .returned (.pointer (some ⟨b, 0, none⟩)) ∧ OutIn w0 b (l ++ strsB ss) w' := by
  subst hn
  obtain ⟨v, h1, h2, h3, h4⟩ := h
  refine (outStr_any b v l (some ⟨w.heap.size, 0, none⟩) cap ss _ (h1.alloc _) hl (fresh_strs w ss _ _ hc (by have := strsB_count ss; unfold maxLen; omega) (fun s hs => by have := strsB_size ss s hs; unfold maxLen; omega)) (fresh_row h1)).mono ?_
  rintro r w' ⟨rfl, ho⟩
  exact ⟨rfl, OutIn.step (l := l) h2 h3 h4 ho.alloc0⟩
theorem outRaw_in (w0 : World) (b : Nat) (l : List UInt8) (s : ByteArray) (w : World) (h : OutIn w0 b l w) (hl : l.length + s.size ≤ 1000000000) :
    Calls Try.prog 119 #[.pointer (some ⟨b, 0, none⟩), .string s] w fun r w' => r = .returned (.pointer (some ⟨b, 0, none⟩)) ∧ OutIn w0 b (l ++ s.data.toList) w' := by
  obtain ⟨v, h1, h2, h3, h4⟩ := h
  refine (outRaw_any b v l s w h1 hl).mono ?_
  rintro r w' ⟨rfl, ho⟩
  exact ⟨rfl, OutIn.step (l := l) h2 h3 h4 ho⟩
theorem outText_in (w0 : World) (b : Nat) (l : List UInt8) (w : World) (h : OutIn w0 b l w) :
    Calls Try.prog 110 #[.pointer (some ⟨b, 0, none⟩)] w fun r w' => r = .returned (.string (bs l)) ∧ w = w' := by
  obtain ⟨v, h1, -⟩ := h
  exact outText_any b v l w h1
end Go.Proofs.Ytpilkaggiajjmaa
