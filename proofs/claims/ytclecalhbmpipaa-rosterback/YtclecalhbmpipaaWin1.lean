/-
  Layer 13: numbers that go round; what came, in its order or not.
-/
import Derived.Test.YtclecalhbmpipaaFrag8
import Derived.Test.YtclecalhbmpipaaMp
namespace Go.Proofs.Ytclecalhbmpipaa
open Go.RowKit
set_option linter.unusedVariables false

def distW (a b : Nat) : Nat := (a + 4294967296 - b) % 4294967296
theorem distW_lt (a b : Nat) : distW a b < 4294967296 := Nat.mod_lt _ (by decide)
theorem wrap_sub (a b : Nat) (ha : a < 4294967296) (hb : b < 4294967296) : IntKind.u32.wrap ((a : Int) - (b : Int)) = (distW a b : Nat) := by
  unfold distW
  rw [IntKind.wrap_u32]
  omega
theorem wrap_succ (a : Nat) (ha : a < 4294967296) : IntKind.u32.wrap ((a : Int) + 1) = (((a + 1) % 4294967296 : Nat) : Int) := by
  rw [IntKind.wrap_u32]
  omega
theorem wf_u32 (n : Nat) (h : n < 4294967296) : (Lit.int .u32 (n : Int)).wf = true := by
  simp [Lit.wf, IntKind.min, IntKind.max, IntKind.signed, IntKind.bits]; omega
def belowB (a b : Nat) : Bool := decide (2147483648 ≤ distW a b)
/-- What is awaited, what waits. -/
structure Ws where
  nx : Nat
  l : List (Nat × List UInt8)
def itV (n : Nat) (t : List UInt8) : Value := .agg #[.int .u32 (n : Int), .string (bs t)]
def entL (l : List (Nat × List UInt8)) : List (Nat × Value) := l.map (fun p => (p.1, itV p.1 p.2))
theorem entL_keys (l : List (Nat × List UInt8)) : (entL l).map (·.1) = l.map (·.1) := by simp [entL]
theorem entL_filter (l : List (Nat × List UInt8)) (n : Nat) : (entL l).filter (fun p => p.1 != n) = entL (l.filter (fun p => p.1 != n)) := by
  unfold entL; rw [List.filter_map]; rfl
theorem entL_mem {l : List (Nat × List UInt8)} {n : Nat} {v : Value} (h : (n, v) ∈ entL l) : ∃ t, (n, t) ∈ l ∧ v = itV n t := by
  obtain ⟨p, hp, e⟩ := List.mem_map.1 h
  simp only [Prod.mk.injEq] at e
  obtain ⟨rfl, rfl⟩ := e
  exact ⟨p.2, hp, rfl⟩
structure WAt (w : World) (b r : Nat) (s : Ws) : Prop where
  c0 : w.cell? ⟨b, 0, none⟩ = some (.int .u32 (s.nx : Int))
  c1 : w.cell? ⟨b, 1, none⟩ = some (.map (some r))
  f0 : w.frozen? ⟨b, 0, none⟩ = false
  f1 : w.frozen? ⟨b, 1, none⟩ = false
  mp : MpAt .u32 w r (entL s.l)
  nx : s.nx < 4294967296
  ne : r ≠ b
theorem WAt.lt {w : World} {b r : Nat} {s : Ws} (h : WAt w b r s) : b < w.heap.size := block_lt_of_cell h.c0
theorem WAt.touch {S : Nat → Prop} {w w' : World} {b r : Nat} {s : Ws} (h : WAt w b r s) (ht : Touch S w w') (hb : ¬ S b) (hr : ¬ S r) : WAt w' b r s :=
  ⟨(ht.cell (p := ⟨b, 0, none⟩) h.lt hb).trans h.c0, (ht.cell (p := ⟨b, 1, none⟩) h.lt hb).trans h.c1, (ht.frozen (p := ⟨b, 0, none⟩) h.lt hb).trans h.f0, (ht.frozen (p := ⟨b, 1, none⟩) h.lt hb).trans h.f1, h.mp.touch ht hr, h.nx, h.ne⟩
theorem WAt.keep {w w' : World} {b r : Nat} {s : Ws} (h : WAt w b r s) (hb : Below w.heap.size w w') : WAt w' b r s := h.touch (touch_of_below (S := fun _ => False) hb) id id
/-- One look-up: the thing, or none. -/
def findW (l : List (Nat × List UInt8)) (n : Nat) : Option (List UInt8) := (l.find? (fun p => p.1 == n)).map (·.2)
theorem findW_of {l : List (Nat × List UInt8)} {n : Nat} {t : List UInt8} (nd : (l.map (·.1)).Nodup) (h : (n, t) ∈ l) : findW l n = some t := by
  unfold findW
  induction l with
  | nil => simp at h
  | cons p l ih =>
    simp only [List.map_cons, List.nodup_cons] at nd
    rcases List.mem_cons.1 h with e | e
    · subst e; simp
    · have hne : p.1 ≠ n := fun e2 => nd.1 (by rw [e2]; exact List.mem_map.2 ⟨_, e, rfl⟩)
      rw [List.find?_cons_of_neg (by simpa using hne)]
      exact ih nd.2 e
theorem findW_none {l : List (Nat × List UInt8)} {n : Nat} (h : ∀ p ∈ l, p.1 ≠ n) : findW l n = none := by
  unfold findW
  rw [List.find?_eq_none.2 (fun p hp => by simpa using h p hp)]; rfl
theorem WAt.next {w : World} {b r : Nat} {s : Ws} (h : WAt w b r s) (m : Nat) (hm : m < 4294967296) : WAt (w.setCell ⟨b, 0, none⟩ (.int .u32 (m : Int))) b r ⟨m, s.l⟩ := by
  have ht : Touch (fun k => k = b) w (w.setCell ⟨b, 0, none⟩ (.int .u32 (m : Int))) := (Touch.refl (fun k => k = b) w).setCell (p := ⟨b, 0, none⟩) (fun _ => rfl) _
  exact ⟨World.cell?_setCell_same _ _ _ h.c0, (World.cell?_setCell_other _ _ _ _ (by simp)).trans h.c1, by simpa using h.f0, by simpa using h.f1, h.mp.touch ht h.ne, hm, h.ne⟩
end Go.Proofs.Ytclecalhbmpipaa
