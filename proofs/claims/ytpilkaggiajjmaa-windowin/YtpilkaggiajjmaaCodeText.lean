/-
  Layer 3: how many instructions an image has, and its bytes.
-/
import Derived.Test.YtpilkaggiajjmaaCodeMake
namespace Go.Proofs.Ytpilkaggiajjmaa
open Go.RowKit
set_option linter.unusedVariables false

/-- At block b bytes grow; the blocks of K are none of theirs. -/
def OutK (K : Nat → Prop) (b : Nat) (l : List UInt8) (w : World) : Prop := ∃ v, OutAt w b v l ∧ ¬ K b ∧ ∀ k, v.ownBlock = some k → ¬ K k
theorem OutK.lt {K : Nat → Prop} {w : World} {b : Nat} {l : List UInt8} (h : OutK K b l w) : b < w.heap.size := by obtain ⟨v, h1, -⟩ := h; exact h1.lt
theorem OutK.below {K : Nat → Prop} {w w' : World} {b : Nat} {l : List UInt8} (h : OutK K b l w) (hb : Below w.heap.size w w') : OutK K b l w' := by
  obtain ⟨v, h1, h2, h3⟩ := h
  exact ⟨v, h1.below hb, h2, h3⟩
theorem OutK.alloc {K : Nat → Prop} {w : World} {b : Nat} {l : List UInt8} (h : OutK K b l w) (o : Obj) : OutK K b l (w.alloc o) := h.below ((Below.refl _ _).alloc (Nat.le_refl _) _)
theorem OutK.sub {K K' : Nat → Prop} {w : World} {b : Nat} {l : List UInt8} (h : OutK K' b l w) (hs : ∀ k, K k → K' k) : OutK K b l w := by
  obtain ⟨v, h1, h2, h3⟩ := h
  exact ⟨v, h1, fun h => h2 (hs _ h), fun k hk h => h3 k hk (hs _ h)⟩
/-- A block that is new is none of theirs. -/
theorem OutK.add {K : Nat → Prop} {w : World} {b : Nat} {l : List UInt8} (h : OutK K b l w) (o : Obj) : OutK (fun k => K k ∨ k = w.heap.size) b l (w.alloc o) := by
  have hl := h.lt
  obtain ⟨v, h1, h2, h3⟩ := h
  refine ⟨v, h1.alloc o, ?_, fun k hk => ?_⟩
  · rintro (h | h)
    · exact h2 h
    · omega
  · have := h1.fresh k hk
    rintro (h | h)
    · exact h3 k hk h
    · omega
theorem OutK.start {K : Nat → Prop} (w : World) (t : TypeId) (hK : ∀ k, K k → k < w.heap.size) : OutK K w.heap.size [] (w.alloc (.cells #[.slice none 0 0] t)) :=
  ⟨.slice none 0 0, ⟨by simp, frozen_new _ _ _ _, World.ownsRow_nil _ _ _ _, by simp [Value.ownBlock]⟩, fun h => by have := hK _ h; omega, fun k hk => by simp [Value.ownBlock] at hk⟩
def OutKTo (K : Nat → Prop) (b : Nat) (l : List UInt8) (w w' : World) : Prop := OutK K b l w' ∧ Touch (fun k => ¬ K k) w w'
theorem OutK.step {K : Nat → Prop} {w wa w' : World} {b : Nat} {l' : List UInt8} {v : Value} (h2 : ¬ K b) (h3 : ∀ k, v.ownBlock = some k → ¬ K k) (hK : ∀ k, K k → k < w.heap.size) (ha : Below w.heap.size w wa) (ho : OutTo wa b v l' w') : OutKTo K b l' w w' := by
  obtain ⟨v', g1, g2, g3⟩ := ho
  have hz := ha.size
  refine ⟨⟨v', g1, h2, fun k hk => ?_⟩, (touch_of_below ha).trans (g3.mono fun k hk h => ?_)⟩
  · rcases g2 k hk with h | h
    · exact h3 k h
    · exact fun hh => by have := hK k hh; omega
  · rcases h with rfl | h
    · exact h2
    · exact h3 k h
theorem outNum_k (K : Nat → Prop) (b : Nat) (l : List UInt8) (n : Nat) (x : Int) (hx : x = (n : Int)) (w : World) (h : OutK K b l w) (hK : ∀ k, K k → k < w.heap.size) (hl : l.length + 10 ≤ 1000000000) (hn : n < 18446744073709551616) :
    Calls Try.prog 106 #[.pointer (some ⟨b, 0, none⟩), .slice (some ⟨w.heap.size, 0, none⟩) 1 1] (w.alloc (.cells #[.int .u64 x] 178)) fun r w' => r = .returned (.pointer (some ⟨b, 0, none⟩)) ∧ OutKTo K b (l ++ numB n) w w' := by
  subst hx
  obtain ⟨v, h1, h2, h3⟩ := h
  have := outNum_any b v l (some ⟨w.heap.size, 0, none⟩) 1 [n] _ (h1.alloc (.cells #[.int .u64 n] 178)) (by simpa using hl) (by simpa using hn) (fresh_ints .u64 w _ _ _ (by simp)) (fresh_row h1)
  refine this.mono ?_
  rintro r w' ⟨rfl, ho⟩
  rw [show numsB [n] = numB n by simp [numsB]] at ho
  exact ⟨rfl, OutK.step h2 h3 hK ((Below.refl _ _).alloc (Nat.le_refl _) _) ho⟩
theorem outCount_k (K : Nat → Prop) (b : Nat) (l : List UInt8) (ns : List Int) (cells : Array Value) (hc : cells = (ns.map (Value.int .i64)).toArray) (n : Nat) (hn : n = ns.length) (w : World) (h : OutK K b l w) (hK : ∀ k, K k → k < w.heap.size) (hl : l.length + 10 * ns.length ≤ 1000000000) (hns : ∀ x ∈ ns, x ≤ 9223372036854775807) :
    Calls Try.prog 107 #[.pointer (some ⟨b, 0, none⟩), .slice (some ⟨w.heap.size, 0, none⟩) n n] (w.alloc (.cells cells 3)) fun r w' => r = .returned (.pointer (some ⟨b, 0, none⟩)) ∧ OutKTo K b (l ++ countsB ns) w w' := by
  subst hc hn
  obtain ⟨v, h1, h2, h3⟩ := h
  have := outCount_any b v l (some ⟨w.heap.size, 0, none⟩) ns.length ns _ (h1.alloc (.cells (ns.map (Value.int .i64)).toArray 3)) hl hns (fresh_ints .i64 w _ _ _ rfl) (fresh_row h1)
  refine this.mono ?_
  rintro r w' ⟨rfl, ho⟩
  exact ⟨rfl, OutK.step h2 h3 hK ((Below.refl _ _).alloc (Nat.le_refl _) _) ho⟩
theorem outText_k (K : Nat → Prop) (b : Nat) (l : List UInt8) (w : World) (h : OutK K b l w) :
    Calls Try.prog 110 #[.pointer (some ⟨b, 0, none⟩)] w fun r w' => r = .returned (.string (bs l)) ∧ w = w' := by
  obtain ⟨v, h1, -⟩ := h
  exact outText_any b v l w h1

/-- The bytes of an instruction, of instructions, of a function, of an image. -/
def insB (x : Nat × Int) : List UInt8 := numB x.1 ++ if hasA x.1 then numB (zig x.2) else []
def codeB (l : List (Nat × Int)) : List UInt8 := (l.map insB).flatten
def fnB (f : Fn) : List UInt8 := countsB [f.args, f.locals, f.code.length] ++ codeB f.code
def fnsB (m : List Fn) : List UInt8 := (m.map fnB).flatten
def textB (m : List Fn) : List UInt8 := countsB [(m.length : Int)] ++ fnsB m
/-- What an image is asked for: numbers that fit. -/
def InsOk (x : Nat × Int) : Prop := x.1 < 256 ∧ -9223372036854775808 ≤ x.2 ∧ x.2 ≤ 9223372036854775807
def FnOk (f : Fn) : Prop := -9223372036854775808 ≤ f.args ∧ f.args ≤ 9223372036854775807 ∧ -9223372036854775808 ≤ f.locals ∧ f.locals ≤ 9223372036854775807 ∧ f.code.length ≤ 1000 ∧ ∀ x ∈ f.code, InsOk x
def ImgOk (m : List Fn) : Prop := m.length ≤ 1000 ∧ ∀ f ∈ m, FnOk f
theorem insB_len {x : Nat × Int} (h : InsOk x) : (insB x).length ≤ 20 := by
  have h1 := numB_ten (n := x.1) (by have := h.1; omega)
  unfold insB
  rw [List.length_append]
  split
  · have h2 := numB_ten (zig_lt h.2.1 h.2.2); omega
  · simp; omega
theorem codeB_len {l : List (Nat × Int)} (h : ∀ x ∈ l, InsOk x) : (codeB l).length ≤ 20 * l.length := by
  induction l with
  | nil => simp [codeB]
  | cons x l ih =>
    have h1 := insB_len (h x (by simp))
    have h2 := ih (fun y hy => h y (by simp [hy]))
    simp only [codeB, List.map_cons, List.flatten_cons, List.length_append, List.length_cons] at h2 ⊢
    omega
theorem countsB_len {ns : List Int} (h : ∀ x ∈ ns, x ≤ 9223372036854775807) : (countsB ns).length ≤ 10 * ns.length := by
  have := numsB_len (ns.map Int.toNat) (fun n hn => by
    obtain ⟨x, hx, rfl⟩ := List.mem_map.1 hn
    have := h x hx
    omega)
  simpa [countsB] using this
theorem fnB_len {f : Fn} (h : FnOk f) : (fnB f).length ≤ 20030 := by
  obtain ⟨_, h1, _, h2, h3, h4⟩ := h
  have := codeB_len h4
  have := countsB_len (ns := [f.args, f.locals, (f.code.length : Int)]) (by intro x hx; simp at hx; omega)
  unfold fnB
  rw [List.length_append]
  simp at this
  omega
theorem fnsB_len {m : List Fn} (h : ∀ f ∈ m, FnOk f) : (fnsB m).length ≤ 20030 * m.length := by
  induction m with
  | nil => simp [fnsB]
  | cons x l ih =>
    have h1 := fnB_len (h x (by simp))
    have h2 := ih (fun y hy => h y (by simp [hy]))
    simp only [fnsB, List.map_cons, List.flatten_cons, List.length_append, List.length_cons] at h2 ⊢
    omega
theorem codeB_snoc (l : List (Nat × Int)) (k : Nat) (h : k < l.length) : codeB (l.take (k + 1)) = codeB (l.take k) ++ insB l[k] := by
  unfold codeB; rw [List.take_succ_eq_append_getElem h, List.map_append, List.flatten_append]; simp
theorem fnsB_snoc (m : List Fn) (k : Nat) (h : k < m.length) : fnsB (m.take (k + 1)) = fnsB (m.take k) ++ fnB m[k] := by
  unfold fnsB; rw [List.take_succ_eq_append_getElem h, List.map_append, List.flatten_append]; simp
/-- The instructions of an image, all of them. -/
def sizeN (m : List Fn) : Nat := (m.map fun f => f.code.length).sum
theorem sizeN_snoc (m : List Fn) (k : Nat) (h : k < m.length) : sizeN (m.take (k + 1)) = sizeN (m.take k) + m[k].code.length := by
  unfold sizeN; rw [List.take_succ_eq_append_getElem h, List.map_append, List.sum_append]; simp
theorem sizeN_le {m : List Fn} (h : ∀ f ∈ m, FnOk f) : sizeN m ≤ 1000 * m.length := by
  induction m with
  | nil => simp [sizeN]
  | cons x l ih =>
    have h1 := (h x (by simp)).2.2.2.2.1
    have h2 := ih (fun y hy => h y (by simp [hy]))
    simp only [sizeN, List.map_cons, List.sum_cons, List.length_cons] at h2 ⊢
    omega
end Go.Proofs.Ytpilkaggiajjmaa
