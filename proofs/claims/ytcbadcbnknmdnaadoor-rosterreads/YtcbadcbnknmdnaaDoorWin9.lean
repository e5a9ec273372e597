/-
  Layer 13: what was sent: what is told; two rows that grow.
-/
import Derived.Test.YtcbadcbnknmdnaaDoorWin8
import Derived.Test.YtcbadcbnknmdnaaDoorWalkFAll
namespace Go.Proofs.YtcbadcbnknmdnaaDoor
open Go.RowKit
set_option linter.unusedVariables false

/-- Two rows of the call's own. -/
structure Two (e1 k1 e2 k2 : Nat) (w : World) (a1 : Option Addr) (c1 : Nat) (l1 : List (List Value)) (a2 : Option Addr) (c2 : Nat) (l2 : List (List Value)) (wr : World) : Prop where
  r1 : OwnV e1 k1 0 a1 c1 l1 wr
  r2 : OwnV e2 k2 0 a2 c2 l2 wr
  n1 : ∀ x, a1 = some x → w.heap.size ≤ x.block
  n2 : ∀ x, a2 = some x → w.heap.size ≤ x.block
  dj : ∀ x y, a1 = some x → a2 = some y → x.block ≠ y.block
  bel : Below w.heap.size w wr
theorem Two.keep {e1 k1 e2 k2 : Nat} {w : World} {a1 a2 : Option Addr} {c1 c2 : Nat} {l1 l2 : List (List Value)} {wr w' : World} (h : Two e1 k1 e2 k2 w a1 c1 l1 a2 c2 l2 wr) (hb : Below wr.heap.size wr w') : Two e1 k1 e2 k2 w a1 c1 l1 a2 c2 l2 w' :=
  ⟨h.r1.touch (touch_of_below (S := fun _ => False) hb) (fun _ _ => id), h.r2.touch (touch_of_below (S := fun _ => False) hb) (fun _ _ => id), h.n1, h.n2, h.dj, h.bel.trans (hb.mono h.bel.size)⟩
theorem Two.none (e1 k1 e2 k2 : Nat) (w : World) : Two e1 k1 e2 k2 w none 0 [] none 0 [] w :=
  ⟨⟨World.ownsRow_nil _ _ _ _, (fun x hx => by cases hx)⟩, ⟨World.ownsRow_nil _ _ _ _, (fun x hx => by cases hx)⟩, (fun x hx => by cases hx), (fun x hx => by cases hx), (fun x y hx => by cases hx), Below.refl _ _⟩
theorem Two.first {e1 k1 e2 k2 : Nat} {w : World} {a1 a2 a' : Option Addr} {c1 c2 c' : Nat} {l1 l2 l' : List (List Value)} {wr w' : World} (h : Two e1 k1 e2 k2 w a1 c1 l1 a2 c2 l2 wr) (ho : OwnV e1 k1 0 a' c' l' w') (ht : Touch (fun k => a1.map (·.block) = some k) wr w') (hn : ∀ x, a' = some x → a1.map (·.block) = some x.block ∨ wr.heap.size ≤ x.block) : Two e1 k1 e2 k2 w a' c' l' a2 c2 l2 w' := by
  have hs := h.bel.size
  refine ⟨ho, h.r2.touch ht (fun y hy e => map_none (P := fun k => k = y.block → False) (fun x hx e => h.dj x y hx hy e) _ e rfl), fun x hx => ?_, h.n2, fun x y hx hy => ?_, h.bel.trans (ht.below hs fun k hk e => by have := map_none (P := fun k => w.heap.size ≤ k) h.n1 k e; omega)⟩
  · rcases hn x hx with e | e
    · exact map_none (P := fun k => w.heap.size ≤ k) h.n1 _ e
    · omega
  · rcases hn x hx with e | e
    · exact map_none (P := fun k => k ≠ y.block) (fun z hz => h.dj z y hz hy) _ e
    · have := h.r2.lt y hy; omega
theorem Two.second {e1 k1 e2 k2 : Nat} {w : World} {a1 a2 a' : Option Addr} {c1 c2 c' : Nat} {l1 l2 l' : List (List Value)} {wr w' : World} (h : Two e1 k1 e2 k2 w a1 c1 l1 a2 c2 l2 wr) (ho : OwnV e2 k2 0 a' c' l' w') (ht : Touch (fun k => a2.map (·.block) = some k) wr w') (hn : ∀ x, a' = some x → a2.map (·.block) = some x.block ∨ wr.heap.size ≤ x.block) : Two e1 k1 e2 k2 w a1 c1 l1 a' c' l' w' := by
  have hs := h.bel.size
  refine ⟨h.r1.touch ht (fun y hy e => map_none (P := fun k => y.block = k → False) (fun x hx e => h.dj y x hy hx e) _ e rfl), ho, h.n1, fun x hx => ?_, fun x y hx hy => ?_, h.bel.trans (ht.below hs fun k hk e => by have := map_none (P := fun k => w.heap.size ≤ k) h.n2 k e; omega)⟩
  · rcases hn x hx with e | e
    · exact map_none (P := fun k => w.heap.size ≤ k) h.n2 _ e
    · omega
  · rcases hn y hy with e | e
    · exact map_none (P := fun k => x.block ≠ k) (fun z hz => h.dj x z hx hz) _ e
    · have := h.r1.lt x hx; omega
theorem u32Ty : VTy 25 1 (.int .u32 0) 4 := ⟨by kernel_rfl, rfl, by decide, by decide⟩
def u32C (n : Nat) : List Value := [.int .u32 (n : Int)]
theorem num_wide (l : List Nat) : VWide 1 (l.map u32C) := by
  intro x hx
  obtain ⟨p, -, rfl⟩ := List.mem_map.1 hx
  exact ⟨rfl, fun u hu => by simp only [u32C, List.mem_singleton] at hu; subst hu; rfl⟩
/-- One record more, made on the spot. -/
theorem own_one {e T : TypeId} {k by' : Nat} {z : Value} (H : VTy e k z by') (hT : Tryd.prog.underlying T = some (.slice e)) {w : World} {B : Nat} {a : Option Addr} {c : Nat} {ls : List (List Value)} (h : OwnV e k B a c ls w) (x : List Value) (hw : VWide k [x]) (hl : ls.length ≤ 100000) (n : Nat) (hn : ls.length = n) (cs : Array Value) (hcs : cs = x.toArray) :
    ∃ a' c' w', (Builtin.append_ #[T, T] T #[.slice a n c, .slice (some ⟨w.heap.size, 0, none⟩) 1 1]).run Tryd.prog (w.alloc (.cells cs e)) = .ok (.slice a' (n + 1) c') w' ∧ OwnV e k 0 a' c' (ls ++ [x]) w' ∧ Touch (fun b => a.map (·.block) = some b) w w' ∧ (∀ x, a' = some x → a.map (·.block) = some x.block ∨ w.heap.size ≤ x.block) := by
  subst hcs
  obtain ⟨a', c', w', h1, h2, h3, h4⟩ := own_app H hT (h.touch (touch_of_below (S := fun _ => False) (bel_alloc (Below.refl _ _) (.cells x.toArray e))) (fun _ _ => id)) w.heap.size 0 1 1 [x] hw rfl
    (fun i hi j hj => by
      obtain rfl : i = 0 := by simpa using hi
      rw [new_at _ _ rfl]
      simp) (by omega) n hn
  refine ⟨a', c', w', h1, h2, ?_, fun x hx => (h4 x hx).imp id fun e => by simp at e; omega⟩
  exact ((Touch.refl (fun b => a.map (·.block) = some b) w).alloc (.cells x.toArray e)).trans h3
end Go.Proofs.YtcbadcbnknmdnaaDoor
