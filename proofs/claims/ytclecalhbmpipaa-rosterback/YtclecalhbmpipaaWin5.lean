/-
  Layer 13: what an end tells.
-/
import Derived.Test.YtclecalhbmpipaaWin4
import Derived.Maps.RangeRun
namespace Go.Proofs.Ytclecalhbmpipaa
open Go.RowKit Go.ChangeMaps
set_option linter.unusedVariables false

/-- All that wait are ahead of the awaited one, at most 32. -/
def OkW (s : Ws) : Prop := ∀ p ∈ s.l, p.1 < 4294967296 ∧ 1 ≤ distW p.1 s.nx ∧ distW p.1 s.nx ≤ 32
/-- The bits that tell of those entries whose stamps were seen. -/
def BitsOf (nx : Nat) (es : List MapEntry) (seen : Array Nat) (B : Nat) : Prop :=
  B < 4294967296 ∧ ∀ k, B.testBit k = true ↔ ∃ x ∈ es, seen.contains x.born = true ∧ ∃ n : Nat, x.key = .int .u32 (n : Int) ∧ distW n nx = k + 1
theorem bits_none (nx : Nat) (es : List MapEntry) : BitsOf nx es #[] 0 := ⟨by decide, fun k => by simp⟩
theorem bits_more {nx : Nat} {es : List MapEntry} {seen : Array Nat} {B : Nat} (h : BitsOf nx es seen B) {x : MapEntry} (hx : x ∈ es) (hn : (es.map (·.born)).Nodup) {n k : Nat} (hk : x.key = .int .u32 (n : Int)) (hd : distW n nx = k + 1) (hk32 : k < 32) : BitsOf nx es (seen.push x.born) (B ||| 2 ^ k) := by
  have h2 : 2 ^ k < 4294967296 := Nat.lt_of_lt_of_le (Nat.pow_lt_pow_right (by decide) hk32) (by decide)
  refine ⟨Nat.or_lt_two_pow (n := 32) h.1 h2, fun j => ?_⟩
  rw [Nat.testBit_or, Bool.or_eq_true, h.2 j, Nat.testBit_two_pow]
  constructor
  · rintro (⟨y, hy, hs, hrest⟩ | e)
    · exact ⟨y, hy, by rw [contains_push, hs]; rfl, hrest⟩
    · have e' : k = j := by simpa using e
      exact ⟨x, hx, by rw [contains_push]; simp, n, hk, by omega⟩
  · rintro ⟨y, hy, hs, m, hm, hdm⟩
    rw [contains_push, Bool.or_eq_true] at hs
    rcases hs with hs | hs
    · exact .inl ⟨y, hy, hs, m, hm, hdm⟩
    · right
      have e1 : y.born = x.born := by simpa using hs
      have e2 : y = x := by
        have f1 := find_born y es hn hy
        have f2 := find_born x es hn hx
        rw [e1, f2] at f1
        exact (Option.some.inj f1).symm
      subst e2
      rw [hk] at hm
      have := int_inj hm
      subst this
      simp; omega
/-- While the map is gone through: the answer's box R, the ack at R + 1, what goes through the map at R + 2. -/
structure AcMem (w : World) (b r nx : Nat) (es : List MapEntry) (clock : Nat) (seen : Array Nat) (B : Nat) (W : World) : Prop where
  it : W.heap[w.heap.size + 1 + 1]? = some (.mapIter (some r) clock seen clock)
  hb : W.heap[r]? = some (.map es.toArray clock)
  a0 : W.cell? ⟨w.heap.size + 1, 0, none⟩ = some (.int .u32 (nx : Int))
  a1 : W.cell? ⟨w.heap.size + 1, 1, none⟩ = some (.int .u32 (B : Int))
  af : W.frozen? ⟨w.heap.size + 1, 1, none⟩ = false
  b0 : W.cell? ⟨b, 0, none⟩ = some (.int .u32 (nx : Int))
  r0 : ∃ v, W.cell? ⟨w.heap.size, 0, none⟩ = some v
  r1 : ∃ v, W.cell? ⟨w.heap.size, 1, none⟩ = some v
  rf : ∀ j, W.frozen? ⟨w.heap.size, j, none⟩ = false
  bel : Below w.heap.size w W
theorem set_other (w : World) (N : Nat) (o : Obj) : Touch (fun j => j = N) w (setBlock w N o) :=
  ⟨rfl, rfl, rfl, by simp [setBlock], fun j hj hne => by
    show (w.heap.setIfInBounds N o)[j]? = w.heap[j]?
    rw [Array.getElem?_setIfInBounds_ne (fun e => hne e.symm)]⟩
theorem AcMem.step {w : World} {b r nx : Nat} {es : List MapEntry} {clock : Nat} {seen : Array Nat} {B : Nat} {W : World} (h : AcMem w b r nx es clock seen B W) (hbw : b < w.heap.size) (hrw : r < w.heap.size) (seen' : Array Nat) : AcMem w b r nx es clock seen' B (setBlock W (w.heap.size + 1 + 1) (.mapIter (some r) clock seen' clock)) := by
  have ht := set_other W (w.heap.size + 1 + 1) (.mapIter (some r) clock seen' clock)
  have hN : w.heap.size + 1 + 1 < W.heap.size := (Array.getElem?_eq_some_iff.1 h.it).1
  obtain ⟨v0, h0⟩ := h.r0
  obtain ⟨v1, h1⟩ := h.r1
  refine ⟨?_, (ht.block r (by omega) (by omega)).trans h.hb, (ht.cell (p := ⟨w.heap.size + 1, 0, none⟩) (by show w.heap.size + 1 < _; omega) (by show ¬ w.heap.size + 1 = _; omega)).trans h.a0, (ht.cell (p := ⟨w.heap.size + 1, 1, none⟩) (by show w.heap.size + 1 < _; omega) (by show ¬ w.heap.size + 1 = _; omega)).trans h.a1, (ht.frozen (p := ⟨w.heap.size + 1, 1, none⟩) (by show w.heap.size + 1 < _; omega) (by show ¬ w.heap.size + 1 = _; omega)).trans h.af, (ht.cell (p := ⟨b, 0, none⟩) (by show b < _; omega) (by show ¬ b = _; omega)).trans h.b0,
    ⟨v0, (ht.cell (p := ⟨w.heap.size, 0, none⟩) (by show w.heap.size < _; omega) (by show ¬ w.heap.size = _; omega)).trans h0⟩, ⟨v1, (ht.cell (p := ⟨w.heap.size, 1, none⟩) (by show w.heap.size < _; omega) (by show ¬ w.heap.size = _; omega)).trans h1⟩, fun j => (ht.frozen (p := ⟨w.heap.size, j, none⟩) (by show w.heap.size < _; omega) (by show ¬ w.heap.size = _; omega)).trans (h.rf j), h.bel.trans (ht.below h.bel.size fun k hk e => by omega)⟩
  show (W.heap.setIfInBounds (w.heap.size + 1 + 1) _)[w.heap.size + 1 + 1]? = _
  rw [Array.getElem?_setIfInBounds_self_of_lt hN]
theorem AcMem.drew {w : World} {b r nx : Nat} {es : List MapEntry} {clock : Nat} {seen : Array Nat} {B : Nat} {W : World} (h : AcMem w b r nx es clock seen B W) : AcMem w b r nx es clock seen B W.drew := ⟨h.it, h.hb, h.a0, h.a1, h.af, h.b0, h.r0, h.r1, h.rf, h.bel.drew⟩
theorem AcMem.bit {w : World} {b r nx : Nat} {es : List MapEntry} {clock : Nat} {seen : Array Nat} {B : Nat} {W : World} (h : AcMem w b r nx es clock seen B W) (hbw : b < w.heap.size) (hrw : r < w.heap.size) (B' : Nat) : AcMem w b r nx es clock seen B' (W.setCell ⟨w.heap.size + 1, 1, none⟩ (.int .u32 (B' : Int))) := by
  have ht : Touch (fun k => k = w.heap.size + 1) W (W.setCell ⟨w.heap.size + 1, 1, none⟩ (.int .u32 (B' : Int))) := (Touch.refl (fun k => k = w.heap.size + 1) W).setCell (p := ⟨w.heap.size + 1, 1, none⟩) (fun _ => rfl) _
  have hN : w.heap.size + 1 + 1 < W.heap.size := (Array.getElem?_eq_some_iff.1 h.it).1
  obtain ⟨v0, h0⟩ := h.r0
  obtain ⟨v1, h1⟩ := h.r1
  exact ⟨(ht.block _ hN (by omega)).trans h.it, (ht.block r (by omega) (by omega)).trans h.hb, (World.cell?_setCell_other _ _ _ _ (by simp)).trans h.a0, World.cell?_setCell_same _ _ _ h.a1, by simpa using h.af, (ht.cell (p := ⟨b, 0, none⟩) (by show b < _; omega) (by show ¬ b = _; omega)).trans h.b0,
    ⟨v0, (ht.cell (p := ⟨w.heap.size, 0, none⟩) (by show w.heap.size < _; omega) (by show ¬ w.heap.size = _; omega)).trans h0⟩, ⟨v1, (ht.cell (p := ⟨w.heap.size, 1, none⟩) (by show w.heap.size < _; omega) (by show ¬ w.heap.size = _; omega)).trans h1⟩, fun j => (ht.frozen (p := ⟨w.heap.size, j, none⟩) (by show w.heap.size < _; omega) (by show ¬ w.heap.size = _; omega)).trans (h.rf j), h.bel.trans (ht.below h.bel.size fun k hk e => by omega)⟩
theorem bits_all {nx : Nat} {s : Ws} {es : List MapEntry} {seen : Array Nat} {B : Nat} (he : EntsAre .u32 es (entL s.l)) (h : BitsOf nx es seen B) (h0 : (leftOf es.toArray seen).size = 0) : ∀ k, B.testBit k = true ↔ ∃ p ∈ s.l, distW p.1 nx = k + 1 := by
  intro k
  rw [h.2 k]
  constructor
  · rintro ⟨x, hx, -, n, hn, hd⟩
    obtain ⟨p, hp, e1, -⟩ := ents_mem he hx
    obtain ⟨q, hq, rfl⟩ := List.mem_map.1 hp
    rw [hn] at e1
    have := int_inj e1
    exact ⟨q, hq, by simp only at this; rw [← this]; exact hd⟩
  · rintro ⟨p, hp, hd⟩
    obtain ⟨x, hx, e1, -⟩ := ents_back he (show (p.1, itV p.1 p.2) ∈ entL s.l from List.mem_map.2 ⟨p, hp, rfl⟩)
    refine ⟨x, hx, ?_, p.1, e1, hd⟩
    cases hc : seen.contains x.born with
    | true => rfl
    | false =>
      have hm : x ∈ leftOf es.toArray seen := by
        unfold leftOf
        exact Array.mem_filter.2 ⟨by simpa using hx, by rw [hc]; rfl⟩
      have := Array.size_pos_of_mem hm
      omega
theorem or_bit (B k : Nat) (hB : B < 4294967296) (hk : k < 32) : bits .or .u32 (B : Int) ((2 : Int) ^ k % 4294967296) = ((B ||| 2 ^ k : Nat) : Int) := by
  have h2 : 2 ^ k < 4294967296 := Nat.lt_of_lt_of_le (Nat.pow_lt_pow_right (by decide) hk) (by decide)
  have e : (2 : Int) ^ k % 4294967296 = ((2 ^ k : Nat) : Int) := by
    have h3 : ((2 ^ k : Nat) : Int) = (2 : Int) ^ k := by simp
    rw [← h3]
    generalize 2 ^ k = z at h2
    omega
  rw [e]
  exact u32_or_nat B (2 ^ k) hB h2
def AckPost (w : World) (s : Ws) (e : Ending) (w' : World) : Prop := (∃ B : Nat, e = .returned (.agg #[.int .u32 (s.nx : Int), .int .u32 (B : Int)]) ∧ B < 4294967296 ∧ ∀ k, B.testBit k = true ↔ ∃ p ∈ s.l, distW p.1 s.nx = k + 1) ∧ Below w.heap.size w w'
end Go.Proofs.Ytclecalhbmpipaa
