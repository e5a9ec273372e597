/-
  Layer 13: two ends and a map, as they lie.
-/
import Derived.Test.YtpilkaggiajjmaaWinA
import Derived.Test.YtpilkaggiajjmaaNums
import Derived.Test.YtpilkaggiajjmaaOrdTidy
namespace Go.Proofs.Ytpilkaggiajjmaa
open Go.RowKit
set_option linter.unusedVariables false

/-- What was sent at b1, what came at b2. -/
structure Ak1 (w : World) (b1 b2 n : Nat) (a : Option Addr) (c : Nat) (l : List (Nat × List UInt8)) (mo : Option Nat) (s : Ws) (wr : World) : Prop where
  o : OAt wr b1 n a c l
  i : WI wr b2 mo s
  bel : Below w.heap.size w wr
  d12 : b1 ≠ b2
  h1 : w.heap.size ≤ b1
  h2 : w.heap.size ≤ b2
  ha : ∀ x, a = some x → w.heap.size ≤ x.block ∧ x.block ≠ b2
  hm : ∀ k, mo = some k → w.heap.size ≤ k ∧ k ≠ b1
  ham : ∀ x k, a = some x → mo = some k → x.block ≠ k
theorem Ak1.keep {w : World} {b1 b2 n : Nat} {a : Option Addr} {c : Nat} {l : List (Nat × List UInt8)} {mo : Option Nat} {s : Ws} {wr w' : World} (h : Ak1 w b1 b2 n a c l mo s wr) (hb : Below wr.heap.size wr w') : Ak1 w b1 b2 n a c l mo s w' :=
  ⟨h.o.keep hb, h.i.keep hb, h.bel.trans (hb.mono h.bel.size), h.d12, h.h1, h.h2, h.ha, h.hm, h.ham⟩
theorem WI.mlt {w : World} {b : Nat} {mo : Option Nat} {s : Ws} (h : WI w b mo s) (k : Nat) (hk : mo = some k) : k < w.heap.size := by
  rcases h with ⟨h1, -⟩ | ⟨r, h1, h2⟩
  · rw [h1] at hk; cases hk
  · rw [h1] at hk; cases hk; exact h2.mp.lt
theorem Ak1.push {w : World} {b1 b2 n n' : Nat} {a a' : Option Addr} {c c' : Nat} {l l' : List (Nat × List UInt8)} {mo : Option Nat} {s : Ws} {wr w' : World} (h : Ak1 w b1 b2 n a c l mo s wr) (hO : OAt w' b1 n' a' c' l') (hf : ∀ x, a' = some x → a.map (·.block) = some x.block ∨ wr.heap.size ≤ x.block) (ht : Touch (fun j => j = b1 ∨ a.map (·.block) = some j) wr w') : Ak1 w b1 b2 n' a' c' l' mo s w' := by
  have hs := h.bel.size
  have hb2 := h.i.lt
  refine ⟨hO, h.i.touch ht ?_ (fun k hk => ?_), h.bel.trans (ht.below hs fun k hk e => ?_), h.d12, h.h1, h.h2, fun x hx => ?_, h.hm, fun x k hx hk => ?_⟩
  · rintro (e | e)
    · exact h.d12 e.symm
    · exact map_none (P := fun j => j ≠ b2) (fun y hy => (h.ha y hy).2) _ e rfl
  · rintro (e | e)
    · exact (h.hm k hk).2 e
    · exact map_none (P := fun j => j ≠ k) (fun y hy => h.ham y k hy hk) _ e rfl
  · rcases e with e | e
    · have := h.h1; omega
    · have := map_none (P := fun j => w.heap.size ≤ j) (fun y hy => (h.ha y hy).1) _ e; omega
  · rcases hf x hx with e | e
    · exact map_none (P := fun j => w.heap.size ≤ j ∧ j ≠ b2) h.ha _ e
    · exact ⟨by omega, by omega⟩
  · rcases hf x hx with e | e
    · exact map_none (P := fun j => j ≠ k) (fun y hy => h.ham y k hy hk) _ e
    · have := h.i.mlt k hk; omega
/-- And how often each came, at r. -/
structure Ak (w : World) (b1 b2 r n : Nat) (a : Option Addr) (c : Nat) (l : List (Nat × List UInt8)) (mo : Option Nat) (s : Ws) (L : List (Nat × Value)) (wr : World) : Prop where
  k1 : Ak1 w b1 b2 n a c l mo s wr
  g : MpAt .u32 wr r L
  hr : w.heap.size ≤ r
  r1 : r ≠ b1
  r2 : r ≠ b2
  ra : ∀ x, a = some x → x.block ≠ r
  rm : ∀ k, mo = some k → k ≠ r
theorem Ak.keep {w : World} {b1 b2 r n : Nat} {a : Option Addr} {c : Nat} {l : List (Nat × List UInt8)} {mo : Option Nat} {s : Ws} {L : List (Nat × Value)} {wr w' : World} (h : Ak w b1 b2 r n a c l mo s L wr) (hb : Below wr.heap.size wr w') : Ak w b1 b2 r n a c l mo s L w' :=
  ⟨h.k1.keep hb, h.g.touch (touch_of_below (S := fun _ => False) hb) id, h.hr, h.r1, h.r2, h.ra, h.rm⟩
theorem Ak1.made {w : World} {b1 b2 n : Nat} {a : Option Addr} {c : Nat} {l : List (Nat × List UInt8)} {mo : Option Nat} {s : Ws} {wr : World} (h : Ak1 w b1 b2 n a c l mo s wr) : Ak w b1 b2 wr.heap.size n a c l mo s [] (wr.alloc (.map #[] 0)) := by
  have hs := h.bel.size
  have hb1 := h.o.lt
  have hb2 := h.i.lt
  exact ⟨h.keep (bel_alloc (Below.refl _ _) _), MpAt.made .u32 wr, hs, by omega, by omega, fun x hx e => by have := h.o.row.lt x hx; omega, fun k hk e => by have := h.i.mlt k hk; omega⟩
theorem Ak.put {w : World} {b1 b2 r n : Nat} {a : Option Addr} {c : Nat} {l : List (Nat × List UInt8)} {mo mo' : Option Nat} {s s' : Ws} {L : List (Nat × Value)} {wr w' : World} (h : Ak w b1 b2 r n a c l mo s L wr) (hw : WI w' b2 mo' s') (hf : ∀ k, mo' = some k → mo = some k ∨ wr.heap.size ≤ k) (ht : Touch (fun k => k = b2 ∨ mo = some k) wr w') : Ak w b1 b2 r n a c l mo' s' L w' := by
  have hs := h.k1.bel.size
  have hb1 := h.k1.o.lt
  have hrl := h.g.lt
  refine ⟨⟨h.k1.o.touch ht ?_ (fun x hx => ?_), hw, h.k1.bel.trans (ht.below hs fun k hk e => ?_), h.k1.d12, h.k1.h1, h.k1.h2, h.k1.ha, fun k hk => ?_, fun x k hx hk => ?_⟩, h.g.touch ht ?_, h.hr, h.r1, h.r2, h.ra, fun k hk => ?_⟩
  · rintro (e | e)
    · exact h.k1.d12 e
    · exact (h.k1.hm _ e).2 rfl
  · rintro (e | e)
    · exact (h.k1.ha x hx).2 e
    · exact h.k1.ham x _ hx e rfl
  · rcases e with e | e
    · have := h.k1.h2; omega
    · have := (h.k1.hm _ e).1; omega
  · rcases hf k hk with e | e
    · exact h.k1.hm k e
    · exact ⟨by omega, by omega⟩
  · rcases hf k hk with e | e
    · exact h.k1.ham x k hx e
    · have := h.k1.o.row.lt x hx; omega
  · rintro (e | e)
    · exact h.r2 e
    · exact h.rm _ e rfl
  · rcases hf k hk with e | e
    · exact h.rm k e
    · omega
theorem Ak.upd {w : World} {b1 b2 r n : Nat} {a : Option Addr} {c : Nat} {l : List (Nat × List UInt8)} {mo : Option Nat} {s : Ws} {L L' : List (Nat × Value)} {wr w' : World} (h : Ak w b1 b2 r n a c l mo s L wr) (hg : MpAt .u32 w' r L') (ht : Touch (fun k => k = r) wr w') : Ak w b1 b2 r n a c l mo s L' w' := by
  have hs := h.k1.bel.size
  exact ⟨⟨h.k1.o.touch ht (fun e => h.r1 e.symm) (fun x hx => h.ra x hx), h.k1.i.touch ht (fun e => h.r2 e.symm) (fun k hk => h.rm k hk), h.k1.bel.trans (ht.below hs fun k hk e => by have := h.hr; omega), h.k1.d12, h.k1.h1, h.k1.h2, h.k1.ha, h.k1.hm, h.k1.ham⟩, hg, h.hr, h.r1, h.r2, h.ra, h.rm⟩
theorem Ak.ack {w : World} {b1 b2 r n : Nat} {a a' : Option Addr} {c c' : Nat} {l l' : List (Nat × List UInt8)} {mo : Option Nat} {s : Ws} {L : List (Nat × Value)} {wr w' : World} (h : Ak w b1 b2 r n a c l mo s L wr) (hO : OAt w' b1 n a' c' l') (hf : ∀ x, a' = some x → wr.heap.size ≤ x.block) (ht : Touch (fun j => j = b1) wr w') : Ak w b1 b2 r n a' c' l' mo s L w' := by
  have hs := h.k1.bel.size
  have hb2 := h.k1.i.lt
  have hrl := h.g.lt
  refine ⟨⟨hO, h.k1.i.touch ht (fun e => h.k1.d12 e.symm) (fun k hk => (h.k1.hm k hk).2), h.k1.bel.trans (ht.below hs fun k hk e => by have := h.k1.h1; omega), h.k1.d12, h.k1.h1, h.k1.h2, fun x hx => ?_, h.k1.hm, fun x k hx hk => ?_⟩, h.g.touch ht h.r1, h.hr, h.r1, h.r2, fun x hx => ?_, h.rm⟩
  · have := hf x hx; exact ⟨by omega, by omega⟩
  · have := hf x hx; have := h.k1.i.mlt k hk; omega
  · have := hf x hx; omega
theorem wrap_add (a d : Nat) : IntKind.u32.wrap ((a : Int) + (d : Int)) = (numW a d : Nat) := by
  unfold numW
  rw [IntKind.wrap_u32]
  omega
theorem zero_int (w : World) : (zeroValue 3).run Try.prog w = .ok (.int .i64 0) w := by kernel_rfl
end Go.Proofs.Ytpilkaggiajjmaa
