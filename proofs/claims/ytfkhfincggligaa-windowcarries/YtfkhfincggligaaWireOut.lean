/-
  Bytes that grow: what each call that puts things behind them comes to.
-/
import Derived.Test.YtfkhfincggligaaWireMath
import Derived.Test.YtfkhfincggligaaTouch
import Derived.Test.YtfkhfincggligaaBytes
import Derived.Test.YtfkhfincggligaaAppend
import Derived.Deep.LoopGhost
namespace Go.Proofs.Ytfkhfincggligaa
open Go.RowKit
set_option linter.unusedVariables false

theorem info5 : (Try.prog.info? 5).map (fun i => (i.zero, i.size, i.bytes)) = some (some (.int .u8 0), 1, 1) := by kernel_rfl
def byteV (c : UInt8) : Value := .int .u8 (c.toNat : Int)
/-- Bytes that grow lie at block b: v is the list that holds them, in a row of its own. -/
def OutAt (w : World) (b : Nat) (v : Value) (l : List UInt8) : Prop :=
  w.cell? ⟨b, 0, none⟩ = some v ∧ w.frozen? ⟨b, 0, none⟩ = false ∧ w.ownsRow 0 5 1 v l.length (l.map byteV) ∧ v.ownBlock ≠ some b
/-- What a call leaves that puts bytes behind: these bytes; no other block is turned but the thing itself and its row. -/
def OutTo (w : World) (b : Nat) (v : Value) (l : List UInt8) (w' : World) : Prop :=
  ∃ v', OutAt w' b v' l ∧ (∀ k, v'.ownBlock = some k → v.ownBlock = some k ∨ w.heap.size ≤ k) ∧ Touch (fun k => k = b ∨ v.ownBlock = some k) w w'
theorem OutAt.lt {w : World} {b : Nat} {v : Value} {l : List UInt8} (h : OutAt w b v l) : b < w.heap.size := block_lt_of_cell h.1
theorem OutAt.to {w : World} {b : Nat} {v : Value} {l : List UInt8} (h : OutAt w b v l) : OutTo w b v l w := ⟨v, h, fun k hk => .inl hk, Touch.refl _ _⟩
theorem OutTo.trans {w w1 w2 : World} {b : Nat} {v v1 : Value} {l1 l2 : List UInt8} (h1 : OutAt w1 b v1 l1) (hf : ∀ k, v1.ownBlock = some k → v.ownBlock = some k ∨ w.heap.size ≤ k) (ht : Touch (fun k => k = b ∨ v.ownBlock = some k) w w1) (h2 : OutTo w1 b v1 l2 w2) : OutTo w b v l2 w2 := by
  obtain ⟨v2, h3, h4, h5⟩ := h2
  refine ⟨v2, h3, fun k hk => ?_, ht.trans' h5 fun k hk hT => ?_⟩
  · rcases h4 k hk with h | h
    · exact hf k h
    · exact .inr (Nat.le_trans ht.size h)
  · rcases hT with h | h
    · exact .inl h
    · rcases hf k h with h' | h'
      · exact .inr h'
      · omega
theorem OutAt.slice {w : World} {b : Nat} {v : Value} {l : List UInt8} (h : OutAt w b v l) : ∃ a cap, v = .slice a l.length cap := by
  rcases h.2.2.1.2 with ⟨hv, h0⟩ | ⟨g, cap, cur, hv, -⟩
  · exact ⟨none, 0, by rw [hv, h0]⟩
  · exact ⟨_, cap, hv⟩
/-- WHAT A CALL IS TOLD OF A LIST OF NUMBERS (kind k). -/
def IntRow (k : IntKind) (w : World) (a : Option Addr) (ns : List Int) : Prop :=
  0 < ns.length → ∃ b off, a = some ⟨b, off, none⟩ ∧ ∀ (i : Nat) (h : i < ns.length), w.cell? ⟨b, off + i, none⟩ = some (.int k ns[i])
theorem touch_grown {w w' : World} {row : Option Nat} (h : w.grownBy w' row) : Touch (fun k => row = some k) w w' :=
  ⟨h.os, h.tape, h.output, h.size, fun k hk hs => h.block k hk (fun e => hs e.symm)⟩
theorem grown_set (w : World) (b : Nat) (v : Value) : w.grownBy (w.setCell ⟨b, 0, none⟩ v) (some b) :=
  ⟨rfl, rfl, rfl, by simp, fun k _ hk => Below.heap_setCell w ⟨b, 0, none⟩ v k (fun e => hk (by rw [e]))⟩
/-- Bytes put behind: what the append and the store come to. -/
theorem out_put {w wa w1 : World} {b : Nat} {v v' : Value} {l m : List UInt8} (h : OutAt w b v l) (ha : Touch (fun _ => False) w wa) (hown : w1.ownsRow 0 5 1 v' (l.length + m.length) (l.map byteV ++ m.map byteV)) (hg : wa.grownBy w1 v.ownBlock)
    (hf : ∀ k, v'.ownBlock = some k → v.ownBlock = some k ∨ wa.heap.size ≤ k) :
    w1.cell? ⟨b, 0, none⟩ = some v ∧ w1.frozen? ⟨b, 0, none⟩ = false ∧ OutTo w b v (l ++ m) (w1.setCell ⟨b, 0, none⟩ v') := by
  have hb := h.lt
  have ht : Touch (fun k => v.ownBlock = some k) w w1 := (ha.mono (fun _ _ hh => hh.elim)).trans (touch_grown hg)
  have hc : w1.cell? ⟨b, 0, none⟩ = some v := (ht.cell (p := ⟨b, 0, none⟩) hb h.2.2.2).trans h.1
  have hz : w1.frozen? ⟨b, 0, none⟩ = false := (ht.frozen (p := ⟨b, 0, none⟩) hb h.2.2.2).trans h.2.1
  have hvb : v'.ownBlock ≠ some b := fun e => by
    rcases hf b e with h' | h'
    · exact h.2.2.2 h'
    · have := ha.size; omega
  refine ⟨hc, hz, v', ⟨World.cell?_setCell_same _ _ _ hc, by simpa using hz, ?_, hvb⟩, fun k hk => ?_, ?_⟩
  · have := hown.kept (grown_set w1 b v') (.inr hvb)
    simpa using this
  · rcases hf k hk with h' | h'
    · exact .inl h'
    · exact .inr (Nat.le_trans ha.size h')
  · exact (ht.mono (fun k _ hh => .inr hh)).setCell (p := ⟨b, 0, none⟩) (fun _ => .inl rfl) _
/-- One byte more. -/
theorem out_byte {w : World} {b : Nat} {v : Value} {l : List UInt8} (c : UInt8) (x : Int) (hx : x = (c.toNat : Int)) (h : OutAt w b v l) (hl : l.length ≤ 1000000000) :
    ∃ a cap w1, (Builtin.append_ #[30, 30] 30 #[v, .slice (some ⟨w.heap.size, 0, none⟩) 1 1]).run Try.prog (w.alloc (.cells #[.int .u8 x] 5)) = .ok (.slice a (l.length + 1) cap) w1 ∧
      w1.cell? ⟨b, 0, none⟩ = some v ∧ w1.frozen? ⟨b, 0, none⟩ = false ∧ OutTo w b v (l ++ [c]) (w1.setCell ⟨b, 0, none⟩ (.slice a (l.length + 1) cap)) := by
  subst hx
  obtain ⟨i0, hi, hz0, hz1, hz2⟩ := info_parts info5
  obtain ⟨v', w1, hr, ho, hg, hf⟩ := append_exact (P := Try.prog) (w.alloc (.cells #[byteV c] 5)) 30 30 5 i0 (.int .u8 0) 1 1 Try.underlying30 hi hz0 hz1 hz2 rfl (by decide) v l.length (l.map byteV) (h.2.2.1.alloc _)
    ⟨w.heap.size, 0, none⟩ 1 1 [byteV c] rfl (fun j u hj => by
      match j, hj with
      | 0, hj => simp at hj; subst hj; simp [Addr.add]) (fun u hu => by simp at hu; subst hu; rfl) (by unfold maxLen; omega) (by omega)
  have h3 := out_put (m := [c]) h ((Touch.refl (fun _ => False) w).alloc _) ho hg hf
  have hsh : ∃ a cap, v' = .slice a (l.length + 1) cap := by
    rcases ho.2 with ⟨hv, h0⟩ | ⟨g, cap, cur, hv, -⟩
    · omega
    · exact ⟨_, cap, hv⟩
  obtain ⟨a, cap, rfl⟩ := hsh
  exact ⟨a, cap, w1, hr, h3⟩
/-- A text's bytes more. -/
theorem out_text {w : World} {b : Nat} {v : Value} {l : List UInt8} (s : ByteArray) (h : OutAt w b v l) (hl : l.length + s.size ≤ 1000000000) :
    ∃ a n cap w1, (Builtin.append_ #[30, 9] 30 #[v, .string s]).run Try.prog w = .ok (.slice a n cap) w1 ∧
      w1.cell? ⟨b, 0, none⟩ = some v ∧ w1.frozen? ⟨b, 0, none⟩ = false ∧ OutTo w b v (l ++ s.data.toList) (w1.setCell ⟨b, 0, none⟩ (.slice a n cap)) := by
  obtain ⟨i0, hi, hz0, hz1, hz2⟩ := info_parts info5
  obtain ⟨v', w1, hr, ho, hg, hf⟩ := append_exact_string (P := Try.prog) w 30 9 30 5 i0 Try.underlying30 Try.underlying9 hi hz0 hz1 hz2 v l.length (l.map byteV) h.2.2.1 s (by unfold maxLen; omega) (by omega)
  have hsz : s.size = s.data.toList.length := by simp
  rw [hsz] at ho
  have h3 := out_put (m := s.data.toList) h (Touch.refl (fun _ => False) w) ho hg hf
  have hsh : ∃ a n cap, v' = .slice a n cap := by
    rcases ho.2 with ⟨hv, h0⟩ | ⟨g, cap, cur, hv, -⟩
    · exact ⟨_, _, _, hv⟩
    · exact ⟨_, _, cap, hv⟩
  obtain ⟨a, n, cap, rfl⟩ := hsh
  exact ⟨a, n, cap, w1, hr, h3⟩
theorem out_back {w : World} {b : Nat} {v : Value} {l : List UInt8} (h : OutAt w b v l) : (convert 30 9 v).run Try.prog w = .ok (.string (bs l)) w := by
  rcases h.2.2.1.2 with ⟨hv, h0⟩ | ⟨g, cap, cur, hv, -⟩
  · obtain rfl : l = [] := List.eq_nil_of_length_eq_zero h0
    subst hv
    rw [run_convert_bytes_string w 30 9 5 none 0 0 Try.underlying30 Try.underlying5 Try.underlying9]
    simp [Conv.bytesToString]
    rfl
  · have hc := h.2.2.1.cells (g := g) (by rw [hv]; rfl)
    subst hv
    refine bytes_back w g cap l.length l rfl fun j hj => ?_
    have := hc j (byteV l[j]) (by simp [hj])
    cases j <;> simpa [Addr.add, byteV] using this
end Go.Proofs.Ytfkhfincggligaa
