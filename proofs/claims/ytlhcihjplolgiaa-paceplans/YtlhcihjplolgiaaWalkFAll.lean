/-
  The walk of the law FragAll.
-/
import Derived.Test.YtlhcihjplolgiaaFrag8
import Derived.Test.YtlhcihjplolgiaaFew
namespace Go.Proofs.Ytlhcihjplolgiaa
open Go.RowKit
set_option linter.unusedVariables false

theorem own_str {B : Nat} {a : Option Addr} {c : Nat} {ms : List (List UInt8)} {w : World} (h : OwnV 9 1 B a c (ms.map strCells1) w) (h0 : 0 < ms.length) : ∃ gb, a = some ⟨gb, 0, none⟩ ∧ gb < w.heap.size ∧ ∀ i (hi : i < ms.length), w.cell? ⟨gb, i, none⟩ = some (.string (bs ms[i])) := by
  have hlen : (ms.map strCells1).length = ms.length := by simp
  rcases h.1.2 with ⟨-, h00⟩ | ⟨g, cap, cur, hv, -, hg, hnc, -, hsz, htk⟩
  · omega
  · have hr := h.row (str_wide _) (by rw [hlen]; exact h0)
    obtain ⟨b, off, e1, hc⟩ := hr
    simp only [Value.slice.injEq] at hv
    rw [hv.1] at e1
    simp only [Option.some.injEq, Addr.mk.injEq] at e1
    obtain ⟨rfl, rfl, -⟩ := e1
    refine ⟨g, hv.1, (Array.getElem?_eq_some_iff.1 hg).1, fun i hi => ?_⟩
    have h1 := hc i (by rw [hlen]; exact hi) 0 (by decide)
    rw [Nat.zero_add, Nat.mul_one, Nat.add_zero] at h1
    rw [h1]
    simp [strCells1]
/-- The parts of some messages, and these, each in a row of its own. -/
structure FaMem (w : World) (ms : List (List UInt8)) (a : Option Addr) (c : Nat) (a2 : Option Addr) (c2 : Nat) (ps : List Pt) (wr : World) : Prop where
  r1 : OwnV 151 2 0 a c (ps.map ptCells) wr
  r2 : OwnV 9 1 0 a2 c2 (ms.map strCells1) wr
  n1 : ∀ x, a = some x → w.heap.size ≤ x.block
  n2 : ∀ x, a2 = some x → w.heap.size ≤ x.block
  dj : ∀ x y, a = some x → a2 = some y → x.block ≠ y.block
  bel : Below w.heap.size w wr
theorem FaMem.keep {w : World} {ms : List (List UInt8)} {a a2 : Option Addr} {c c2 : Nat} {ps : List Pt} {wr w' : World} (h : FaMem w ms a c a2 c2 ps wr) (hb : Below wr.heap.size wr w') : FaMem w ms a c a2 c2 ps w' :=
  ⟨h.r1.touch (touch_of_below (S := fun _ => False) hb) (fun _ _ => id), h.r2.touch (touch_of_below (S := fun _ => False) hb) (fun _ _ => id), h.n1, h.n2, h.dj, h.bel.trans (hb.mono h.bel.size)⟩
theorem map_none {a : Option Addr} {P : Nat → Prop} (h : ∀ x, a = some x → P x.block) (k : Nat) (e : a.map (·.block) = some k) : P k := by
  cases a with
  | none => simp at e
  | some y => simp at e; subst e; exact h y rfl
theorem FaMem.parts {w : World} {ms : List (List UInt8)} {a a2 a' : Option Addr} {c c2 c' : Nat} {ps ps' : List Pt} {wr w' : World} (h : FaMem w ms a c a2 c2 ps wr) (ho : OwnV 151 2 0 a' c' (ps'.map ptCells) w') (ht : Touch (fun k => a.map (·.block) = some k) wr w') (hn : ∀ x, a' = some x → a.map (·.block) = some x.block ∨ wr.heap.size ≤ x.block) : FaMem w ms a' c' a2 c2 ps' w' := by
  have hs := h.bel.size
  refine ⟨ho, h.r2.touch ht (fun y hy e => map_none (P := fun k => k = y.block → False) (fun x hx e => h.dj x y hx hy e) _ e rfl), fun x hx => ?_, h.n2, fun x y hx hy => ?_, h.bel.trans (ht.below hs fun k hk e => by have := map_none (P := fun k => w.heap.size ≤ k) h.n1 k e; omega)⟩
  · rcases hn x hx with e | e
    · exact map_none (P := fun k => w.heap.size ≤ k) h.n1 _ e
    · omega
  · rcases hn x hx with e | e
    · exact map_none (P := fun k => k ≠ y.block) (fun z hz => h.dj z y hz hy) _ e
    · have := h.r2.lt y hy; omega
theorem FaMem.texts {w : World} {ms ms' : List (List UInt8)} {a a2 a' : Option Addr} {c c2 c' : Nat} {ps : List Pt} {wr w' : World} (h : FaMem w ms a c a2 c2 ps wr) (ho : OwnV 9 1 0 a' c' (ms'.map strCells1) w') (ht : Touch (fun k => a2.map (·.block) = some k) wr w') (hn : ∀ x, a' = some x → a2.map (·.block) = some x.block ∨ wr.heap.size ≤ x.block) : FaMem w ms' a c a' c' ps w' := by
  have hs := h.bel.size
  refine ⟨h.r1.touch ht (fun y hy e => map_none (P := fun k => y.block = k → False) (fun x hx e => h.dj y x hy hx e) _ e rfl), ho, h.n1, fun x hx => ?_, fun x y hx hy => ?_, h.bel.trans (ht.below hs fun k hk e => by have := map_none (P := fun k => w.heap.size ≤ k) h.n2 k e; omega)⟩
  · rcases hn x hx with e | e
    · exact map_none (P := fun k => w.heap.size ≤ k) h.n2 _ e
    · omega
  · rcases hn y hy with e | e
    · exact map_none (P := fun k => x.block ≠ k) (fun z hz => h.dj x z hx hz) _ e
    · have := h.r1.lt x hx; omega
theorem parts_snoc (ms : List (List UInt8)) (m : List UInt8) : partsOf (ms ++ [m]) = partsOf ms ++ cutL m := by simp [partsOf]
/-- All that the first loop knows. -/
structure FaIn (w : World) (k n : Nat) (ms : List (List UInt8)) (a : Option Addr) (c : Nat) (a2 : Option Addr) (c2 : Nat) (wr : World) : Prop where
  hn : (partsOf ms).length = n
  hk : ms.length = k
  sz : ∀ m ∈ ms, m.length ≤ 700
  mem : FaMem w ms a c a2 c2 (partsOf ms) wr
theorem parts_text (ms : List (List UInt8)) : ∀ p ∈ partsOf ms, p.text.length ≤ 1000000 := by
  intro p hp
  unfold partsOf at hp
  obtain ⟨x, hx, hpx⟩ := List.mem_flatten.1 hp
  obtain ⟨m, -, rfl⟩ := List.mem_map.1 hx
  obtain ⟨i, hi, rfl⟩ := List.getElem_of_mem hpx
  have := cutL_text m i hi
  omega
end Go.Proofs.Ytlhcihjplolgiaa
