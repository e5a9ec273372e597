/-
  Bytes that grow, with numbers handed in as rows that were laid at whatever time: what is kept of all else.
-/
import Derived.Test.YtpilkaggiajjmaaRefMore
namespace Go.Proofs.Ytpilkaggiajjmaa
open Go.RowKit
set_option linter.unusedVariables false

/-- At block b bytes grow; the blocks of K, which are there, are none of theirs. -/
def OutQ (K : Nat → Prop) (b : Nat) (l : List UInt8) (w : World) : Prop := OutK K b l w ∧ ∀ k, K k → k < w.heap.size
/-- Those of K, and those that were laid since. -/
def KK (K : Nat → Prop) (wp W : World) (k : Nat) : Prop := K k ∨ (wp.heap.size ≤ k ∧ k < W.heap.size)
def QPost (K : Nat → Prop) (b : Nat) (l : List UInt8) (wp W : World) (r : Ending) (w' : World) : Prop :=
  r = .returned (.pointer (some ⟨b, 0, none⟩)) ∧ OutQ (KK K wp W) b l w' ∧ Touch (fun k => ¬ KK K wp W k) W w'
theorem OutQ.lt {K : Nat → Prop} {w : World} {b : Nat} {l : List UInt8} (h : OutQ K b l w) : b < w.heap.size := h.1.lt
theorem OutQ.not {K : Nat → Prop} {w : World} {b : Nat} {l : List UInt8} (h : OutQ K b l w) : ¬ K b := by obtain ⟨⟨v, -, h2, -⟩, -⟩ := h; exact h2
theorem OutQ.below {K : Nat → Prop} {w w' : World} {b : Nat} {l : List UInt8} (h : OutQ K b l w) (hb : Below w.heap.size w w') : OutQ K b l w' :=
  ⟨h.1.below hb, fun k hk => Nat.lt_of_lt_of_le (h.2 k hk) hb.size⟩
theorem OutQ.sub {K K' : Nat → Prop} {w : World} {b : Nat} {l : List UInt8} (h : OutQ K' b l w) (hs : ∀ k, K k → K' k) : OutQ K b l w := ⟨h.1.sub hs, fun k hk => h.2 k (hs k hk)⟩
/-- A block that is new is none of theirs. -/
theorem OutQ.add {K : Nat → Prop} {w : World} {b : Nat} {l : List UInt8} (h : OutQ K b l w) (o : Obj) : OutQ (fun k => K k ∨ k = w.heap.size) b l (w.alloc o) :=
  ⟨h.1.add o, fun k hk => by rcases hk with hk | hk; have := h.2 k hk; simp; omega; simp; omega⟩
theorem OutQ.start {K : Nat → Prop} (w : World) (t : TypeId) (hK : ∀ k, K k → k < w.heap.size) : OutQ K w.heap.size [] (w.alloc (.cells #[.slice none 0 0] t)) :=
  ⟨OutK.start w t hK, fun k hk => by have := hK k hk; simp; omega⟩
theorem bel_alloc {w0 w : World} (h : Below w0.heap.size w0 w) (o : Obj) : Below w0.heap.size w0 (w.alloc o) := h.alloc h.size o
theorem OutQ.step {K : Nat → Prop} {wp W w' : World} {b : Nat} {l l' : List UInt8} {v : Value} (h1 : OutAt wp b v l) (h2 : ¬ K b) (h3 : ∀ k, v.ownBlock = some k → ¬ K k) (hK : ∀ k, K k → k < wp.heap.size) (hb : Below wp.heap.size wp W) (ho : OutTo W b v l' w') :
    OutQ (KK K wp W) b l' w' ∧ Touch (fun k => ¬ KK K wp W k) W w' := by
  obtain ⟨v', g1, g2, g3⟩ := ho
  have hz := hb.size
  have hz' := g3.size
  have hlt := h1.lt
  have nb : ¬ KK K wp W b := by
    rintro (h | h)
    · exact h2 h
    · omega
  have nv : ∀ k, v.ownBlock = some k → ¬ KK K wp W k := by
    intro k hk
    have := h1.fresh k hk
    rintro (h | h)
    · exact h3 k hk h
    · omega
  refine ⟨⟨⟨v', g1, nb, fun k hk => ?_⟩, fun k hk => ?_⟩, g3.mono fun k hk h => ?_⟩
  · rcases g2 k hk with h | h
    · exact nv k h
    · rintro (h' | h')
      · have := hK k h'; omega
      · omega
  · rcases hk with h | h
    · have := hK k h; omega
    · omega
  · rcases h with rfl | h
    · exact nb
    · exact nv k h
theorem OutQ.apart {K : Nat → Prop} {wp : World} {b g : Nat} {l : List UInt8} {v : Value} (h1 : OutAt wp b v l) (h2 : ¬ K b) (h3 : ∀ k, v.ownBlock = some k → ¬ K k) (hg : K g ∨ wp.heap.size ≤ g) : g ≠ b ∧ v.ownBlock ≠ some g := by
  have hlt := h1.lt
  refine ⟨fun e => ?_, fun e => ?_⟩
  · subst e
    rcases hg with h | h
    · exact h2 h
    · omega
  · have := h1.fresh g e
    rcases hg with h | h
    · exact h3 g e h
    · omega
theorem outNum_q {K : Nat → Prop} {b : Nat} {l : List UInt8} {wp W : World} (h : OutQ K b l wp) (ns : List Nat) (hl : l.length + 10 * ns.length ≤ 1000000000) (hns : ∀ x ∈ ns, x < 18446744073709551616) (hb : Below wp.heap.size wp W) (g off n cap : Nat) (hn : n = ns.length)
    (hr : IntRow .u64 W (some ⟨g, off, none⟩) (ns.map fun (x : Nat) => (x : Int))) (hg : K g ∨ wp.heap.size ≤ g) :
    Calls Try.prog 106 #[.pointer (some ⟨b, 0, none⟩), .slice (some ⟨g, off, none⟩) n cap] W (QPost K b (l ++ numsB ns) wp W) := by
  subst hn
  obtain ⟨⟨v, h1, h2, h3⟩, hK⟩ := h
  refine (outNum_any b v l (some ⟨g, off, none⟩) cap ns W (h1.below hb) hl hns hr (fun x hx => by cases hx; exact OutQ.apart h1 h2 h3 hg)).mono ?_
  rintro r w' ⟨rfl, ho⟩
  exact ⟨rfl, OutQ.step h1 h2 h3 hK hb ho⟩
theorem outCount_q {K : Nat → Prop} {b : Nat} {l : List UInt8} {wp W : World} (h : OutQ K b l wp) (ns : List Int) (hl : l.length + 10 * ns.length ≤ 1000000000) (hns : ∀ x ∈ ns, x ≤ 9223372036854775807) (hb : Below wp.heap.size wp W) (g off n cap : Nat) (hn : n = ns.length)
    (hr : IntRow .i64 W (some ⟨g, off, none⟩) ns) (hg : K g ∨ wp.heap.size ≤ g) :
    Calls Try.prog 107 #[.pointer (some ⟨b, 0, none⟩), .slice (some ⟨g, off, none⟩) n cap] W (QPost K b (l ++ countsB ns) wp W) := by
  subst hn
  obtain ⟨⟨v, h1, h2, h3⟩, hK⟩ := h
  refine (outCount_any b v l (some ⟨g, off, none⟩) cap ns W (h1.below hb) hl hns hr (fun x hx => by cases hx; exact OutQ.apart h1 h2 h3 hg)).mono ?_
  rintro r w' ⟨rfl, ho⟩
  exact ⟨rfl, OutQ.step h1 h2 h3 hK hb ho⟩
theorem outText_q {K : Nat → Prop} {b : Nat} {l : List UInt8} {w : World} (h : OutQ K b l w) :
    Calls Try.prog 110 #[.pointer (some ⟨b, 0, none⟩)] w fun r w' => r = .returned (.string (bs l)) ∧ w = w' := outText_k K b l w h.1
theorem intRow1 {k : IntKind} {w : World} {g off : Nat} {x : Int} (h : w.cell? ⟨g, off, none⟩ = some (.int k x)) : IntRow k w (some ⟨g, off, none⟩) [x] := fun _ => ⟨g, off, rfl, fun i hi => by
  have : i = 0 := by simpa using hi
  subst this
  exact h⟩
theorem intRow2 {k : IntKind} {w : World} {g off : Nat} {x y : Int} (h : w.cell? ⟨g, off, none⟩ = some (.int k x) ∧ w.cell? ⟨g, off + 1, none⟩ = some (.int k y)) : IntRow k w (some ⟨g, off, none⟩) [x, y] := fun _ => ⟨g, off, rfl, fun i hi => by
  have : i = 0 ∨ i = 1 := by simp at hi; omega
  rcases this with rfl | rfl
  · exact h.1
  · exact h.2⟩
theorem keep_cell {S : Nat → Prop} {W w' : World} (ht : Touch (fun k => ¬ S k) W w') {g j : Nat} (hg : S g) {v : Value} (h : W.cell? ⟨g, j, none⟩ = some v) : w'.cell? ⟨g, j, none⟩ = some v :=
  (ht.cell (p := ⟨g, j, none⟩) (block_lt_of_cell h) (fun hn => hn hg)).trans h
theorem alloc_cell {W : World} {g j : Nat} {v : Value} (h : W.cell? ⟨g, j, none⟩ = some v) (o : Obj) : (W.alloc o).cell? ⟨g, j, none⟩ = some v :=
  (((Below.refl _ W).alloc (Nat.le_refl _) o).cell (p := ⟨g, j, none⟩) (block_lt_of_cell h)).trans h
theorem new_cell {W : World} {cells : Array Value} {t : TypeId} {k j : Nat} {v : Value} (hk : k = W.heap.size) (hv : cells[j]? = some v) : (W.alloc (.cells cells t)).cell? ⟨k, j, none⟩ = some v := by
  subst hk
  rw [World.cell?_alloc_new]
  exact hv
theorem drew_cell {W : World} {p : Addr} {v : Value} (h : W.cell? p = some v) : W.drew.cell? p = some v := h
end Go.Proofs.Ytpilkaggiajjmaa
