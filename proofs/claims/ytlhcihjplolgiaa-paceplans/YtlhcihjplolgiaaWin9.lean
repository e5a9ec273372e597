/-
  Layer 13: what was sent: what is told; two rows that grow.
-/
import Derived.Test.YtlhcihjplolgiaaWin8
import Derived.Test.YtlhcihjplolgiaaWalkFAll
namespace Go.Proofs.Ytlhcihjplolgiaa
open Go.RowKit
set_option linter.unusedVariables false

/-- Two rows of the call's own. -/
structure Two (e1 k1 e2 k2 : Nat) (w : World) (a1 : Option Addr) (c1 : Nat) (l1 : List (List Value)) (a2 : Option Addr) (c2 : Nat) (l2 : List (List Value)) (wr : World) : Prop where
  r1 : OwnV e1 k1 0 a1 c1 l1 wr
  r2 : OwnV e2 k2 0 a2 c2 l2 wr
  n1 : ∀ x, a1 = some x → w.heap.size ≤ x.block
  n2 : ∀ x, a2 = some x → w.heap.size ≤ x.block
  dj : ∀ x y, a1 = some x → a2 = some y → x.block ≠ y.block
  bel : Below w.heap.size w wr
theorem Two.keep {e1 k1 e2 k2 : Nat} {w : World} {a1 a2 : Option Addr} {c1 c2 : Nat} {l1 l2 : List (List Value)} {wr w' : World} (h : Two e1 k1 e2 k2 w a1 c1 l1 a2 c2 l2 wr) (hb : Below wr.heap.size wr w') : Two e1 k1 e2 k2 w a1 c1 l1 a2 c2 l2 w' :=
  ⟨h.r1.touch (touch_of_below (S := fun _ => False) hb) (fun _ _ => id), h.r2.touch (touch_of_below (S := fun _ => False) hb) (fun _ _ => id), h.n1, h.n2, h.dj, h.bel.trans (hb.mono h.bel.size)⟩
theorem Two.none (e1 k1 e2 k2 : Nat) (w : World) : Two e1 k1 e2 k2 w none 0 [] none 0 [] w :=
  ⟨⟨World.ownsRow_nil _ _ _ _, (fun x hx => by cases hx)⟩, ⟨World.ownsRow_nil _ _ _ _, (fun x hx => by cases hx)⟩, (fun x hx => by cases hx), (fun x hx => by cases hx), (fun x y hx => by cases hx), Below.refl _ _⟩
theorem Two.first {e1 k1 e2 k2 : Nat} {w : World} {a1 a2 a' : Option Addr} {c1 c2 c' : Nat} {l1 l2 l' : List (List Value)} {wr w' : World} (h : Two e1 k1 e2 k2 w a1 c1 l1 a2 c2 l2 wr) (ho : OwnV e1 k1 0 a' c' l' w') (ht : Touch (fun k => a1.map (·.block) = some k) wr w') (hn : ∀ x, a' = some x → a1.map (·.block) = some x.block ∨ wr.heap.size ≤ x.block) : Two e1 k1 e2 k2 w a' c' l' a2 c2 l2 w' := by
  have hs := h.bel.size
  refine ⟨ho, h.r2.touch ht (fun y hy e => map_none (P := fun k => k = y.block → False) (fun x hx e => h.dj x y hx hy e) _ e rfl), fun x hx => ?_, h.n2, fun x y hx hy => ?_, h.bel.trans (ht.below hs fun k hk e => by have := map_none (P := fun k => w.heap.size ≤ k) h.n1 k e; omega)⟩
  · rcases hn x hx with e | e
    · exact map_none (P := fun k => w.heap.size ≤ k) h.n1 _ e
    · omega
  · rcases hn x hx with e | e
    · exact map_none (P := fun k => k ≠ y.block) (fun z hz => h.dj z y hz hy) _ e
    · have := h.r2.lt y hy; omega
theorem Two.second {e1 k1 e2 k2 : Nat} {w : World} {a1 a2 a' : Option Addr} {c1 c2 c' : Nat} {l1 l2 l' : List (List Value)} {wr w' : World} (h : Two e1 k1 e2 k2 w a1 c1 l1 a2 c2 l2 wr) (ho : OwnV e2 k2 0 a' c' l' w') (ht : Touch (fun k => a2.map (·.block) = some k) wr w') (hn : ∀ x, a' = some x → a2.map (·.block) = some x.block ∨ wr.heap.size ≤ x.block) : Two e1 k1 e2 k2 w a1 c1 l1 a' c' l' w' := by
  have hs := h.bel.size
  refine ⟨h.r1.touch ht (fun y hy e => map_none (P := fun k => y.block = k → False) (fun x hx e => h.dj y x hy hx e) _ e rfl), ho, h.n1, fun x hx => ?_, fun x y hx hy => ?_, h.bel.trans (ht.below hs fun k hk e => by have := map_none (P := fun k => w.heap.size ≤ k) h.n2 k e; omega)⟩
  · rcases hn x hx with e | e
    · exact map_none (P := fun k => w.heap.size ≤ k) h.n2 _ e
    · omega
  · rcases hn y hy with e | e
    · exact map_none (P := fun k => x.block ≠ k) (fun z hz => h.dj x z hx hz) _ e
    · have := h.r1.lt x hx; omega
theorem u32Ty : VTy 132 1 (.int .u32 0) 4 := ⟨by kernel_rfl, rfl, by decide, by decide⟩
def u32C (n : Nat) : List Value := [.int .u32 (n : Int)]
theorem num_wide (l : List Nat) : VWide 1 (l.map u32C) := by
  intro x hx
  obtain ⟨p, -, rfl⟩ := List.mem_map.1 hx
  exact ⟨rfl, fun u hu => by simp only [u32C, List.mem_singleton] at hu; subst hu; rfl⟩
/-- One record more, made on the spot. -/
theorem own_one {e T : TypeId} {k by' : Nat} {z : Value} (H : VTy e k z by') (hT : Try.prog.underlying T = some (.slice e)) {w : World} {B : Nat} {a : Option Addr} {c : Nat} {ls : List (List Value)} (h : OwnV e k B a c ls w) (x : List Value) (hw : VWide k [x]) (hl : ls.length ≤ 100000) (n : Nat) (hn : ls.length = n) (cs : Array Value) (hcs : cs = x.toArray) :
    ∃ a' c' w', (Builtin.append_ #[T, T] T #[.slice a n c, .slice (some ⟨w.heap.size, 0, none⟩) 1 1]).run Try.prog (w.alloc (.cells cs e)) = .ok (.slice a' (n + 1) c') w' ∧ OwnV e k 0 a' c' (ls ++ [x]) w' ∧ Touch (fun b => a.map (·.block) = some b) w w' ∧ (∀ x, a' = some x → a.map (·.block) = some x.block ∨ w.heap.size ≤ x.block) := by
  subst hcs
  obtain ⟨a', c', w', h1, h2, h3, h4⟩ := own_app H hT (h.touch (touch_of_below (S := fun _ => False) (bel_alloc (Below.refl _ _) (.cells x.toArray e))) (fun _ _ => id)) w.heap.size 0 1 1 [x] hw rfl
    (fun i hi j hj => by
      obtain rfl : i = 0 := by simpa using hi
      rw [new_at _ _ rfl]
      simp) (by omega) n hn
  refine ⟨a', c', w', h1, h2, ?_, fun x hx => (h4 x hx).imp id fun e => by simp at e; omega⟩
  exact ((Touch.refl (fun b => a.map (·.block) = some b) w).alloc (.cells x.toArray e)).trans h3
theorem outLen_any (b n : Nat) (a : Option Addr) (c : Nat) (l : List (Nat × List UInt8)) (w : World) (h : OAt w b n a c l) : Calls Try.prog 65 #[.pointer (some ⟨b, 0, none⟩)] w fun r w' => r = .returned (.int .i64 (l.length : Int)) ∧ w = w' := by
  have c1 := h.c1
  have hbl := h.lt
  clear h
  go_enter Try.func65, Try.ntmps65
  go_wp2
  go_ret
  exact ⟨rfl, rfl⟩
set_option maxRecDepth 100000 in
set_option maxHeartbeats 2000000 in
theorem wpush_full (b n : Nat) (a : Option Addr) (c : Nat) (p : Nat × List UInt8) (l' : List (Nat × List UInt8)) (t : List UInt8) (w : World) (h : OAt w b n a c (p :: l')) (hl : l'.length ≤ 1000) (hp : p.1 < 4294967296) (hd : 32 ≤ distW n p.1) :
    Calls Try.prog 123 #[.pointer (some ⟨b, 0, none⟩), .string (bs t)] w fun r w' => r = .returned (.tuple #[.int .u32 0, .int .i64 8]) ∧ Below w.heap.size w w' := by
  have c0 := h.c0
  have c1 := h.c1
  have hbl := h.lt
  have hg := h.row.row (it_wide _) (by simp)
  obtain ⟨g, off, rfl, hc⟩ := hg
  have x0 := hc 0 (by simp) 0 (by decide)
  simp only [List.map_cons, List.getElem_cons_zero, Nat.zero_mul, Nat.add_zero] at x0
  have x0' : w.cell? ⟨g, off, none⟩ = some (.int .u32 (p.1 : Int)) := x0
  have hgl := block_lt_of_cell x0'
  simp only at hgl
  have hwd := wrap_sub n p.1 h.nx hp
  simp only [List.length_cons] at c1
  have hpos : decide ((0 : Int) < (l'.length : Int) + 1) = true := decide_eq_true (by omega)
  have hdi : decide ((32 : Int) ≤ (distW n p.1 : Nat)) = true := decide_eq_true (by omega)
  generalize distW n p.1 = d at hd hwd hdi
  have hpos2 : (0 : Int) < (l'.length : Int) + 1 := by omega
  clear h hc x0
  go_enter Try.func123, Try.ntmps123
  go_upto_region 1 with (fail)
  go_quiet (fail)
  have HB : Hid (Below w.heap.size w (w.drewN nq)) := Lib.hid (drewN_bel w nq)
  go_wp2
  go_ret2
  exact ⟨rfl, HB.out⟩
end Go.Proofs.Ytlhcihjplolgiaa
