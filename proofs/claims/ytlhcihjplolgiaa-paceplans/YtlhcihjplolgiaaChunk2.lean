/-
  Layer 11: which pieces may be; their rows.
-/
import Derived.Test.YtlhcihjplolgiaaChunk1
import Derived.Deep.RegionWith
namespace Go.Proofs.Ytlhcihjplolgiaa
open Go.RowKit
set_option linter.unusedVariables false

def checkP (p : Pc) : Nat :=
  if p.turn < 0 ∨ 1099511627776 < p.turn ∨ p.n < 0 then 4 else if p.bytes < 1 ∨ 65536 < p.bytes then 3 else if countP p.bytes ≤ p.n ∨ (p.text.length : Int) ≠ min (p.bytes - p.n * 100) 100 then 2 else 0
theorem checkP_le (p : Pc) : checkP p ≤ 4 := by unfold checkP; split <;> (try split) <;> (try split) <;> omega
/-- Records of cells of any kind, one behind the other. -/
def VWide (k : Nat) (ls : List (List Value)) : Prop := ∀ x ∈ ls, x.length = k ∧ ∀ u ∈ x, u.oneCell' = true
theorem vflat_len {k : Nat} {ls : List (List Value)} (hw : VWide k ls) : ls.flatten.length = ls.length * k := by
  induction ls with
  | nil => simp
  | cons x l ih =>
    rw [List.flatten_cons, List.length_append, ih (fun y hy => hw y (by simp [hy])), (hw x (by simp)).1, List.length_cons, Nat.add_mul]
    omega
theorem vflat_at {k : Nat} {ls : List (List Value)} (hw : VWide k ls) : ∀ i (h : i < ls.length) j, j < k → ls.flatten[i * k + j]? = ls[i][j]? := by
  induction ls with
  | nil => intro i h; simp at h
  | cons x l ih =>
    intro i h j hj
    have hx := (hw x (by simp)).1
    cases i with
    | zero =>
      rw [List.flatten_cons, Nat.zero_mul, Nat.zero_add, List.getElem?_append_left (by omega)]
      simp
    | succ i =>
      have e : (i + 1) * k + j = x.length + (i * k + j) := by rw [hx, Nat.add_mul]; omega
      rw [List.flatten_cons, e, List.getElem?_append_right (by omega), Nat.add_sub_cancel_left]
      exact ih (fun y hy => hw y (by simp [hy])) i (by simpa using h) j hj
def VRow (k : Nat) (w : World) (a : Option Addr) (ls : List (List Value)) : Prop :=
  0 < ls.length → ∃ b off, a = some ⟨b, off, none⟩ ∧ ∀ i (h : i < ls.length) j, j < k → w.cell? ⟨b, off + i * k + j, none⟩ = ls[i][j]?
theorem VRow.touch {S : Nat → Prop} {k : Nat} (hk : 0 < k) {w w' : World} {a : Option Addr} {ls : List (List Value)} (hw : VWide k ls) (h : VRow k w a ls) (ht : Touch S w w') (hs : ∀ x, a = some x → ¬ S x.block) : VRow k w' a ls := by
  intro h0
  obtain ⟨b, off, e, hc⟩ := h h0
  refine ⟨b, off, e, fun i hi j hj => ?_⟩
  have h1 := hc i hi j hj
  have hx := (hw ls[i] (List.getElem_mem hi)).1
  rw [List.getElem?_eq_getElem (show j < ls[i].length by omega)] at h1 ⊢
  have hsb : ¬ S b := hs ⟨b, off, none⟩ e
  exact (ht.cell (p := ⟨b, off + i * k + j, none⟩) (block_lt_of_cell h1) hsb).trans h1
structure VTy (e : TypeId) (k : Nat) (z : Value) (by' : Nat) : Prop where
  info : (Try.prog.info? e).map (fun i => (i.zero, i.size, i.bytes)) = some (some z, k, by')
  cells : z.cells.size = k
  pos : 0 < k
  few : k ≤ 100 ∧ by' ≤ 800
/-- A row of such records of the call's own, in blocks from B on. -/
def OwnV (e : TypeId) (k B : Nat) (a : Option Addr) (c : Nat) (ls : List (List Value)) (w : World) : Prop :=
  w.ownsRow 0 e k (.slice a ls.length c) ls.length ls.flatten ∧ (∀ x, a = some x → B ≤ x.block)
theorem OwnV.touch {S : Nat → Prop} {e : TypeId} {k B : Nat} {w1 w2 : World} {a : Option Addr} {c : Nat} {ls : List (List Value)} (h : OwnV e k B a c ls w1) (ht : Touch S w1 w2) (hs : ∀ x, a = some x → ¬ S x.block) : OwnV e k B a c ls w2 :=
  ⟨own_touchR h.1 ht (fun k hk => by
    cases a with
    | none => simp [Value.ownBlock] at hk
    | some x => simp [Value.ownBlock] at hk; subst hk; exact hs _ rfl), h.2⟩
theorem OwnV.lt {e : TypeId} {k B : Nat} {a : Option Addr} {c : Nat} {ls : List (List Value)} {w : World} (h : OwnV e k B a c ls w) : ∀ x, a = some x → x.block < w.heap.size := fun x hx => by
  rcases h.1.2 with ⟨hv, -⟩ | ⟨g, cap, cur, hv, -, hg, -⟩
  · rw [hx] at hv; simp at hv
  · rw [hx] at hv
    simp only [Value.slice.injEq, Option.some.injEq] at hv
    rw [hv.1]
    exact (Array.getElem?_eq_some_iff.1 hg).1
theorem OwnV.row {e : TypeId} {k B : Nat} {a : Option Addr} {c : Nat} {ls : List (List Value)} {w : World} (hw : VWide k ls) (h : OwnV e k B a c ls w) : VRow k w a ls := by
  intro h0
  rcases h.1.2 with ⟨-, h00⟩ | ⟨g, cap, cur, hv, -, hg, hnc, -, hsz, htk⟩
  · omega
  · simp only [Value.slice.injEq] at hv
    refine ⟨g, 0, hv.1, fun i hi j hj => ?_⟩
    have hlt : i * k + j < ls.length * k := by
      have : (i + 1) * k ≤ ls.length * k := Nat.mul_le_mul_right k hi
      rw [Nat.add_mul] at this; omega
    have h1 := vflat_at hw i hi j hj
    rw [← htk, List.getElem?_take_of_lt hlt] at h1
    unfold World.cell?
    simp only [hg, Nat.zero_add]
    rw [← h1]
    simp
theorem OwnV.one {w1 : World} {t ty e : TypeId} {k B by' : Nat} {z : Value} (H : VTy e k z by') (ht : Try.prog.underlying t = some (.slice e)) {a1 : Option Addr} {c1 : Nat} {l : List (List Value)} (h : OwnV e k B a1 c1 l w1) (hB : B ≤ w1.heap.size) (x : List Value) (hx : x.length = k ∧ ∀ u ∈ x, u.oneCell' = true) (hl : l.length + 1 ≤ 1000000) (m : Nat) (hm : w1.heap.size = m) :
    ∃ a' c' w', (Builtin.append_ #[t, t] ty #[.slice a1 l.length c1, .slice (some ⟨m, 0, none⟩) 1 1]).run Try.prog (w1.alloc (.cells x.toArray e)) = .ok (.slice a' (l.length + 1) c') w' ∧ OwnV e k B a' c' (l ++ [x]) w' ∧ Touch (fun b => a1.map (·.block) = some b) w1 w' := by
  subst hm
  obtain ⟨i0, hi, hz0, hz1, hz2⟩ := info_is H.info
  have hf1 := H.few.1
  have hf2 := H.few.2
  obtain ⟨v', w', hrun, ho, hg, hf⟩ := append_exact (P := Try.prog) (w1.alloc (.cells x.toArray e)) t ty e i0 z k by' ht hi hz0 hz1 hz2 H.cells H.pos (.slice a1 l.length c1) l.length l.flatten (h.1.alloc _) ⟨w1.heap.size, 0, none⟩ 1 1 x (by rw [hx.1]; omega)
    (fun j u hu => by
      have hj : j < x.length := (List.getElem?_eq_some_iff.1 hu).1
      have : (w1.alloc (.cells x.toArray e)).cell? ⟨w1.heap.size, 0 + j, none⟩ = some u := by simp [hu]
      exact add_cellR this) hx.2 (by unfold maxLen; omega)
    (by have : (l.length + 1) * by' ≤ 1000000 * 800 := Nat.mul_le_mul hl hf2; omega)
  obtain ⟨a', c', rfl⟩ := own_sliceR ho
  refine ⟨a', c', w', hrun, ⟨by rw [List.length_append, List.flatten_append]; simpa using ho, fun y hy => ?_⟩, ((Touch.refl _ w1).alloc _).trans ((touch_grown hg).mono fun b hb h' => ?_)⟩
  · subst hy
    rcases hf y.block (by simp [Value.ownBlock]) with h' | h'
    · cases a1 with
      | none => simp [Value.ownBlock] at h'
      | some z => simp [Value.ownBlock] at h'; have := h.2 z rfl; omega
    · simp at h'; omega
  · cases a1 with
    | none => simp [Value.ownBlock] at h'
    | some z => simpa [Value.ownBlock] using h'
end Go.Proofs.Ytlhcihjplolgiaa
